/- Layer 17 (landed): two worlds that mean the same are told equal. What is refused changes nothing, plainly. Layer 17 (landed): several worlds at once, and boxes; what is refused changes nothing, plainly. -/
import Derived.Test.YtefiiooibbkffaaGreatFlMu
import Derived.Test.YtefiiooibbkffaaGreatFlHd
namespace Go.Proofs.YtefiiooibbkffaaGreat
open Go.ChangeShapes Go.WideShapes Go.ChangeAt Go.RowKit Go.Deep Go.Sort
set_option linter.unusedVariables false
set_option linter.unusedSimpArgs false

section
variable {w : World} {kd kd2 : Nat → Ro} {t t2 r r2 : Nat} {h h2 : Gh} {S : Fl}
end
end Go.Proofs.YtefiiooibbkffaaGreat

namespace Go.Proofs.YtefiiooibbkffaaGreat
open Go.ChangeShapes Go.WideShapes Go.ChangeAt Go.RowKit Go.Deep Go.Sort
set_option linter.unusedVariables false
set_option linter.unusedSimpArgs false

def anyOwn (ρ : Ro) : Prop := ∃ t, own t ρ
theorem any_no : ¬ anyOwn .no := fun ⟨_, _, e⟩ => by cases e
/-- Worlds by their tags, boxes by their blocks. -/
def Sx (w0 wr : World) (Ws : List (Nat × Nat × Fl)) (Bs : List (Nat × Obj)) : Prop := ∃ kd, (∀ x, x ∈ Ws → ∃ h, FW wr kd x.1 x.2.1 h x.2.2) ∧ (∀ b, b ∈ Bs → wr.heap[b.1]? = some b.2 ∧ kd b.1 = .no) ∧ Ch anyOwn (fun _ => .no) kd w0 wr
section
variable {w0 wr w' : World} {t t2 r r2 : Nat} {S : Fl} {Ws : List (Nat × Nat × Fl)} {Bs : List (Nat × Obj)} {j : Nat} {n : Int} {o : FOp}
theorem Sx.grown (s : Sx w0 wr Ws Bs) : w0.grownBy wr none := by
  obtain ⟨kd, -, -, c⟩ := s
  exact c.noGrown fun _ _ => any_no
theorem Sx.sub (s : Sx w0 wr Ws Bs) {Ws' : List (Nat × Nat × Fl)} {Bs' : List (Nat × Obj)} (h1 : ∀ x, x ∈ Ws' → x ∈ Ws) (h2 : ∀ b, b ∈ Bs' → b ∈ Bs) : Sx w0 wr Ws' Bs' := by
  obtain ⟨kd, a, b, c⟩ := s
  exact ⟨kd, fun x hx => a x (h1 x hx), fun x hx => b x (h2 x hx), c⟩
theorem Sx.grow (s : Sx w0 wr Ws Bs) (g : wr.grownBy w' none) : Sx w0 w' Ws Bs := by
  obtain ⟨kd, a, b, c⟩ := s
  exact ⟨kd, fun x hx => (a x hx).imp fun h f => f.grow g, fun x hx => ⟨(g.block _ (heap_lt (b x hx).1) (by simp)).trans (b x hx).1, (b x hx).2⟩, c.trans (Ch.grown g)⟩
theorem Sx.box (s : Sx w0 wr Ws Bs) (ob : Obj) : Sx w0 (wr.alloc ob) Ws ((wr.heap.size, ob) :: Bs) := by
  obtain ⟨kd, a, b, c⟩ := s
  have cn := Ch.new noRo kd wr ob .no
  refine ⟨upd kd wr.heap.size .no, fun x hx => (a x hx).imp fun h f => f.chNo cn, fun x hx => ?_, c.trans (cn.mono fun _ e => (no_ro _ e).elim)⟩
  rcases List.mem_cons.1 hx with rfl | hx
  · exact ⟨heap_alloc_new wr ob, upd_same _ _ _⟩
  · obtain ⟨b1, b2⟩ := b x hx
    exact ⟨(cn.block _ (heap_lt b1) (no_ro _)).trans b1, (cn.kd _ (heap_lt b1)).trans b2⟩
theorem Sx.at (s : Sx w0 wr Ws Bs) {y : Nat} {ob : Obj} (h : (y, ob) ∈ Bs) : wr.heap[y]? = some ob := by
  obtain ⟨kd, -, b, -⟩ := s
  exact (b _ h).1
theorem Sx.nd (s : Sx w0 wr Ws Bs) (h : (t, r, S) ∈ Ws) : (S.ps.map (·.1)).Nodup := by
  obtain ⟨kd, a, -, -⟩ := s
  obtain ⟨g, f⟩ := a _ h
  exact f.bw.nd
theorem Sx.procs_ok (s : Sx w0 wr Ws Bs) (h : (t, r, S) ∈ Ws) (hok : SOk S) : Calls Tryz.prog 20 #[.pointer (some ⟨r, 0, none⟩)] wr fun e w' => ∃ u, e = .returned u ∧ RowOf zCells 1 w' u (sortI (S.ps.map (·.1))) ∧ wr.grownBy w' none := by
  obtain ⟨kd, a, -, -⟩ := s
  obtain ⟨g, f⟩ := a _ h
  refine (fprocs_ok f hok).mono ?_
  rintro e w' ⟨u, q1, q2, -, q3⟩
  exact ⟨u, q1, q2, q3⟩
theorem Sx.entries_ok (s : Sx w0 wr Ws Bs) (h : (t, r, S) ∈ Ws) (hok : SOk S) {id : Int} {p : Pr} (hi : okI id) (hp : geA S.ps id = some p) : Calls Tryz.prog 23 #[.pointer (some ⟨r, 0, none⟩), .int .i64 id] wr fun e w' => ∃ u, e = .returned u ∧ EOwn w' wr.heap.size u p.L ∧ wr.grownBy w' none := by
  obtain ⟨kd, a, -, -⟩ := s
  obtain ⟨g, f⟩ := a _ h
  exact fentries_ok f hok hi hp
theorem Sx.byte_ok (s : Sx w0 wr Ws Bs) (h : (t, r, S) ∈ Ws) (hok : SOk S) (id pg i : Int) (hi : okI id) {x e : Int} (hb : S.byte id pg i = (x, e)) : Calls Tryz.prog 21 #[.pointer (some ⟨r, 0, none⟩), .int .i64 id, .int .i64 pg, .int .i64 i] wr fun q w' => q = .returned (.tuple #[.int .i64 x, .int .i64 e]) ∧ wr.grownBy w' none := by
  obtain ⟨kd, a, -, -⟩ := s
  obtain ⟨g, f⟩ := a _ h
  have := fbyte_ok f hok id pg i hi
  rw [hb] at this
  exact this
theorem Sx.do_ok (s : Sx w0 wr ((t, r, S) :: Ws) Bs) (ht : ∀ x, x ∈ Ws → x.1 ≠ t) (hs : SI S j n) (hj : j ≤ 150) (hn0 : 0 ≤ n) (hn : n ≤ 450) (o : FOp) (ho : OkO o) (hl : lightP o) :
    Calls Tryz.prog 15 #[.pointer (some ⟨r, 0, none⟩), .agg #[.int .i64 o.k, .int .i64 o.proc, .int .i64 o.addr, .int .i64 o.n, .int .i64 o.prot, .bool o.sh, .int .i64 o.file, .int .i64 o.off, .bool o.fixed, .int .i64 o.how, .int .i64 o.ati, .int .i64 o.v, .int .i64 o.hd, .int .i64 o.to]] wr fun e w' => e = .returned (.agg #[.int .i64 (S.act o).e, .int .i64 (S.doN o)]) ∧ Sx w0 w' ((t, r, (S.act o).S) :: Ws) Bs := by
  obtain ⟨kd, a, b, c⟩ := s
  obtain ⟨h, f⟩ := a (t, r, S) (by simp)
  refine (do_all f hs hj hn0 hn o ho hl).mono ?_
  rintro e w' ⟨he, kd2, h2, f2, c2⟩
  refine ⟨he, kd2, fun x hx => ?_, fun x hx => ?_, c.trans (c2.mono fun ρ e => ⟨t, e⟩)⟩
  · rcases List.mem_cons.1 hx with rfl | hx
    · exact ⟨h2, f2⟩
    · exact (a x (List.mem_cons_of_mem _ hx)).imp fun g f3 => f3.other c2 (ht x hx)
  · obtain ⟨b1, b2⟩ := b x hx
    exact ⟨(c2.block _ (heap_lt b1) (by rw [b2]; exact own_no)).trans b1, (c2.kd _ (heap_lt b1)).trans b2⟩
theorem Sx.copy_ok (s : Sx w0 wr ((t, r, S) :: Ws) Bs) (ht : t ≠ t2) (hok : SOk S) (hsz : ∀ q, q ∈ S.ps → ∀ x, x ∈ q.2.L → x.e - x.s ≤ 4096) :
    Calls Tryz.prog 18 #[.pointer (some ⟨r, 0, none⟩)] wr fun e w' => ∃ r2, e = .returned (.pointer (some ⟨r2, 0, none⟩)) ∧ Sx w0 w' ((t2, r2, S) :: (t, r, S) :: Ws) Bs := by
  obtain ⟨kd, a, b, c⟩ := s
  obtain ⟨h, f⟩ := a (t, r, S) (by simp)
  refine (Go.Proofs.YtefiiooibbkffaaGreat.copy_ok f hok hsz ht).mono ?_
  rintro e w' ⟨r2, kd2, h2, he, f2, c2, f1⟩
  refine ⟨r2, he, kd2, fun x hx => ?_, fun x hx => ?_, c.trans (c2.mono fun ρ e => (no_ro _ e).elim)⟩
  · rcases List.mem_cons.1 hx with rfl | hx
    · exact ⟨h2, f2⟩
    · exact (a x hx).imp fun g f3 => f3.chNo c2
  · obtain ⟨b1, b2⟩ := b x hx
    exact ⟨(c2.block _ (heap_lt b1) (no_ro _)).trans b1, (c2.kd _ (heap_lt b1)).trans b2⟩
theorem mem_sumK : ∀ (l : List En), (∀ x, x ∈ l → x.s ≤ x.e) → ∀ x, x ∈ l → x.e - x.s ≤ sumE l
  | [], _, x, hx => by cases hx
  | y :: l, h, x, hx => by
    have h0 : 0 ≤ sumE l := by
      clear hx
      induction l with
      | nil => exact Int.le_refl _
      | cons z l ih =>
        rw [sumE_cons]
        have h1 := h z (by simp)
        have h2 := ih fun u hu => h u (by rcases List.mem_cons.1 hu with e | e <;> simp [e])
        omega
    rw [sumE_cons]
    rcases List.mem_cons.1 hx with rfl | hx
    · omega
    · have h1 := h y (by simp)
      have h2 := mem_sumK l (fun u hu => h u (List.mem_cons_of_mem _ hu)) x hx
      omega
theorem si_size (h : SI S j n) (hn : n ≤ 4096) : ∀ q, q ∈ S.ps → ∀ x, x ∈ q.2.L → x.e - x.s ≤ 4096 := fun q hq x hx => by
  have h1 : LI q.2.L n (1000 + j) := (h.ps.pr q hq).1
  have h2 := mem_sumK q.2.L (rf_le h1.mp.rf) x hx
  have h3 := h1.sm
  omega
/-! ### what is refused -/
end
end Go.Proofs.YtefiiooibbkffaaGreat
