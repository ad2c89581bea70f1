/- Layer 17 (landed): two worlds that mean the same are told equal. What is refused changes nothing, plainly. Layer 17 (landed): several worlds at once, and boxes; what is refused changes nothing, plainly. Layer 17 (landed): FlatKeeps, walked. Written by wip/genflkeeps.py. -/
import Derived.Test.YtefiiooibbkffaaGreatFlMu
import Derived.Test.YtefiiooibbkffaaGreatFlHd
import Derived.Laws.StructEq
namespace Go.Proofs.YtefiiooibbkffaaGreat
open Go.ChangeShapes Go.WideShapes Go.ChangeAt Go.RowKit Go.Deep Go.Sort
set_option linter.unusedVariables false
set_option linter.unusedSimpArgs false

theorem z_cells17 {w : World} {v : Value} {xs : List Int} (h : RowOf zCells 1 w v xs) {j : Nat} {x : Int} (hx : xs[j]? = some x) : ∃ g o c, v = .slice (some ⟨g, o, none⟩) xs.length c ∧ w.cell? ⟨g, o + j, none⟩ = some (.int .i64 x) := by
  obtain ⟨g, o, c, hv, hc⟩ := RowOf.at z_len h hx
  have := hc 0 _ rfl
  rw [Nat.mul_one, Nat.add_zero] at this
  exact ⟨g, o, c, hv, this⟩
set_option maxHeartbeats 2000000 in
/-- The very same numbers. -/
theorem ints_same {w : World} {s s' : Option Addr} {xs : List Int} (c c' : Nat) (hx : RowOf zCells 1 w (.slice s xs.length c) xs) (hy : RowOf zCells 1 w (.slice s' xs.length c') xs) (hlx : xs.length ≤ 1000000) :
    Calls Tryz.prog 45 #[.slice s xs.length c, .slice s' xs.length c'] w fun e w' => e = .returned (.bool true) ∧ w.grownBy w' none := by
  have HX := Lib.hid hx
  have HY := Lib.hid hy
  have hb : ((xs.length : Int) != (xs.length : Int)) = false := by simp
  clear hx hy
  go_enter Tryz.func45, Tryz.ntmps45
  go_wp2_with fail
  go_loopw [13] (fun i wr => ∃ q : Nat, q ≤ xs.length ∧ i = .int .i64 q ∧ Hid (w.grownBy wr none)) (fun i _ => xs.length - (intOf i).toNat)
  case atStart => exact ⟨0, by omega, rfl, Lib.hid (grown_refl _ _)⟩
  case round =>
    obtain ⟨q, hq, rfl, HB⟩ := hrel
    by_cases hlt : q < xs.length
    · obtain ⟨x, hx⟩ : ∃ x, xs[q]? = some x := ⟨_, List.getElem?_eq_getElem hlt⟩
      obtain ⟨g, o, c1, hv1, hc1⟩ := z_cells17 (rowOf_grow HX.out HB.out) hx
      obtain ⟨g2, o2, c2, hv2, hc2⟩ := z_cells17 (rowOf_grow HY.out HB.out) hx
      injection hv1 with e1 e2 e3
      injection hv2 with e4 e5 e6
      subst e1 e3 e4 e6
      have hxx : (x != x) = false := by simp
      clear hx
      go_wp2_with fail
      go_quiet (fail)
      go_wp2_with fail
      go_roundw
      case rel => exact ⟨q + 1, by omega, by go_num, Lib.hid (grown_trans HB.out (grown_draws _ _))⟩
      case measure => simp [intOf]; omega
    · obtain rfl : q = xs.length := by omega
      go_wp2_with fail
      go_ret
      exact ⟨rfl, HB.out⟩
section
variable {w : World} {kd kd2 : Nat → Ro} {t t2 r r2 : Nat} {h h2 : Gh} {S : Fl}
set_option maxRecDepth 100000 in
set_option maxHeartbeats 16000000 in
theorem equal_ok (k : FW w kd t r h S) (k2 : FW w kd2 t2 r2 h2 S) (hok : SOk S) {s : Option Addr} {l c : Nat} {P : List (List Int)} (hP : IntRows w s l 1 P) (hl20 : l ≤ 1000000) :
    Calls Tryz.prog 19 #[.pointer (some ⟨r, 0, none⟩), .pointer (some ⟨r2, 0, none⟩), .slice s l c] w fun e w' => e = .returned (.bool true) ∧ w.grownBy w' none := by
  have HP1 := Lib.hid (fun W (g : w.grownBy W none) => fprocs_ok (k.grow g) hok)
  have HP2 := Lib.hid (fun W (g : w.grownBy W none) => fprocs_ok (k2.grow g) hok)
  have HH1 := Lib.hid (fun W (g : w.grownBy W none) => fhandles_ok (k.grow g) hok)
  have HH2 := Lib.hid (fun W (g : w.grownBy W none) => fhandles_ok (k2.grow g) hok)
  have HE1 := Lib.hid (fun W (g : w.grownBy W none) id p (hi : okI id) (hp : geA S.ps id = some p) => fentries_ok (k.grow g) hok hi hp)
  have HE2 := Lib.hid (fun W (g : w.grownBy W none) id p (hi : okI id) (hp : geA S.ps id = some p) => fentries_ok (k2.grow g) hok hi hp)
  have HB1 := Lib.hid (fun W (g : w.grownBy W none) id pg (hi : okI id) => fbyte_ok (k.grow g) hok id pg 5 hi)
  have HB2 := Lib.hid (fun W (g : w.grownBy W none) id pg (hi : okI id) => fbyte_ok (k2.grow g) hok id pg 5 hi)
  have HPl := Lib.hid (show (sortI (S.ps.map (·.1))).length ≤ 16 by rw [sortI_length, List.length_map]; exact hok.pl)
  have HHl := Lib.hid (show (sortI (S.H.map (·.1))).length ≤ 64 by rw [sortI_length, List.length_map]; exact hok.hh)
  have HMem := Lib.hid (show ∀ id, id ∈ sortI (S.ps.map (·.1)) → okI id ∧ ∃ p, geA S.ps id = some p ∧ p.L.length ≤ 800 from fun id hid => by
    have h1 := mem_sortI.1 hid
    obtain ⟨q, hq, rfl⟩ := List.mem_map.1 h1
    obtain ⟨p, hp⟩ := Option.isSome_iff_exists.1 (geA_isSome.2 h1)
    exact ⟨hok.io q hq, p, hp, (hok.pi _ (geA_some hp)).ln⟩)
  obtain ⟨I, hI⟩ : ∃ I, sortI (S.ps.map (·.1)) = I := ⟨_, rfl⟩
  rw [hI] at HP1 HP2 HPl HMem
  obtain ⟨J, hJ⟩ : ∃ J, sortI (S.H.map (·.1)) = J := ⟨_, rfl⟩
  rw [hJ] at HH1 HH2 HHl
  have HPg := Lib.hid hP
  have hIl := HPl.out
  have hJl := HHl.out
  have hlP := hP.len
  clear k k2 hok hI hJ hP
  go_enter Tryz.func19, Tryz.ntmps19
  go_wp2_with fail
  refine (HP1.out _ (grown_refl _ _)).mono ?_
  rintro e w1 ⟨u1, rfl, k1, -, g1⟩
  obtain ⟨s1, c1, hv1⟩ := rowOf_form k1
  subst hv1
  have HR1 := Lib.hid k1
  have HG1 := Lib.hid g1
  clear k1 g1
  go_wp2_with fail
  refine (HP2.out _ HG1.out).mono ?_
  rintro e w2 ⟨u2, rfl, k2, -, g2⟩
  obtain ⟨s2, c2, hv2⟩ := rowOf_form k2
  subst hv2
  have HI2 := Lib.hid (ints_same c1 c2 (rowOf_grow HR1.out g2) k2 (by omega))
  have HG2 := Lib.hid (grown_trans HG1.out g2)
  clear k2 g2
  go_wp2_with fail
  refine HI2.out.mono ?_
  rintro e w3 ⟨rfl, g3⟩
  have HG3 := Lib.hid (grown_trans HG2.out g3)
  clear g3
  go_wp2_with fail
  refine (HH1.out _ HG3.out).mono ?_
  rintro e w4 ⟨u4, rfl, k4, -, g4⟩
  obtain ⟨s4, c4, hv4⟩ := rowOf_form k4
  subst hv4
  have HR4 := Lib.hid k4
  have HG4 := Lib.hid (grown_trans HG3.out g4)
  clear k4 g4
  go_wp2_with fail
  refine (HH2.out _ HG4.out).mono ?_
  rintro e w5 ⟨u5, rfl, k5, -, g5⟩
  obtain ⟨s5, c5, hv5⟩ := rowOf_form k5
  subst hv5
  have HI5 := Lib.hid (ints_same c4 c5 (rowOf_grow HR4.out g5) k5 (by omega))
  have HG5 := Lib.hid (grown_trans HG4.out g5)
  clear k5 g5
  go_wp2_with fail
  refine HI5.out.mono ?_
  rintro e w6 ⟨rfl, g6⟩
  have HG6 := Lib.hid (grown_trans HG5.out g6)
  clear g6
  go_wp2_with fail
  refine (HP1.out _ HG6.out).mono ?_
  rintro e w7 ⟨u7, rfl, k7, -, g7⟩
  obtain ⟨s7, c7, hv7⟩ := rowOf_form k7
  subst hv7
  have HR7 := Lib.hid k7
  have HG7 := Lib.hid (grown_trans HG6.out g7)
  clear k7 g7 HI2 HI5 HR1 HR4 HP1 HP2 HH1 HH2 HHl hJl
  go_wp2_with fail
  go_loopw [32] (fun iv wr => ∃ q : Nat, q ≤ I.length ∧ iv = .int .i64 q ∧ Hid (w7.grownBy wr none)) (fun iv _ => I.length - (intOf iv).toNat)
  case atStart => exact ⟨0, by omega, rfl, Lib.hid (grown_refl _ _)⟩
  case round =>
    obtain ⟨q, hq, rfl, HGq⟩ := hrel
    by_cases hlt : q < I.length
    · obtain ⟨id, hid⟩ : ∃ id, I[q]? = some id := ⟨_, List.getElem?_eq_getElem hlt⟩
      obtain ⟨g, o, c', hv, kc⟩ := z_cells17 (rowOf_grow HR7.out HGq.out) hid
      injection hv with e1 e2 e3
      subst e1 e3
      obtain ⟨hio, p, hp, hpl⟩ := HMem.out id (List.mem_of_getElem? hid)
      have HGr := Lib.hid (grown_trans HG7.out HGq.out)
      have HEa := Lib.hid (HE1.out _ HGr.out id p hio hp)
      have HEb := Lib.hid (fun W (g : w.grownBy W none) => HE2.out W g id p hio hp)
      have HBa := Lib.hid (fun W (g : w.grownBy W none) pg => HB1.out W g id pg hio)
      have HBb := Lib.hid (fun W (g : w.grownBy W none) pg => HB2.out W g id pg hio)
      clear hid hio hp
      generalize p.L = L at *
      go_wp2_with fail
      refine HEa.out.mono ?_
      rintro e w8 ⟨u8, rfl, k8, g8⟩
      obtain ⟨s8, c8, hv8⟩ := OwnOf.form k8
      subst hv8
      have HR8 := Lib.hid (eown_row k8)
      have HG8 := Lib.hid (grown_trans HGr.out g8)
      have HW8 := Lib.hid (grown_trans HGq.out g8)
      clear k8 g8 kc HEa
      go_wp2_with fail
      refine (HEb.out _ HG8.out).mono ?_
      rintro e w9 ⟨u9, rfl, k9, g9⟩
      obtain ⟨s9, c9, hv9⟩ := OwnOf.form k9
      subst hv9
      have HSm := Lib.hid (same_ok (xs := L) (ys := L) c8 c9 (erow_grow HR8.out g9) (eown_row k9) (by omega) true (by simp))
      have HG9 := Lib.hid (grown_trans HG8.out g9)
      have HW9 := Lib.hid (grown_trans HW8.out g9)
      clear k9 g9 HEb HR8
      go_wp2_with fail
      refine HSm.out.mono ?_
      rintro e wa ⟨rfl, ga⟩
      have HGa := Lib.hid (grown_trans HG9.out ga)
      have HWa := Lib.hid (grown_trans HW9.out ga)
      clear ga HSm
      go_wp2_with fail
      go_loopw [46] (fun iv wr => ∃ i : Nat, i ≤ l ∧ iv = .int .i64 i ∧ Hid (wa.grownBy wr none)) (fun iv _ => l - (intOf iv).toNat)
      case atStart => exact ⟨0, by omega, rfl, Lib.hid (grown_refl _ _)⟩
      case round =>
        obtain ⟨i, hi, rfl, HGi⟩ := hrel
        have HGw := Lib.hid (grown_trans HGa.out HGi.out)
        by_cases hlt2 : i < l
        · obtain ⟨zs, hzs⟩ : ∃ zs, P[i]? = some zs := ⟨_, List.getElem?_eq_getElem (by omega)⟩
          have hz1 := (HPg.out.each zs (List.mem_of_getElem? hzs)).1
          obtain ⟨pg, rfl⟩ : ∃ pg, zs = [pg] := by
            match zs, hz1 with
            | [x], _ => exact ⟨x, rfl⟩
          obtain ⟨b, o2, hs, hc⟩ := HPg.out.at (fun b hb => HGw.out.block b hb (by simp)) hzs
          subst hs
          have kp := hc 0 pg rfl
          simp only [Nat.mul_one, Nat.add_zero] at kp
          obtain ⟨x, e, hxe⟩ : ∃ x e, S.byte id pg 5 = (x, e) := ⟨_, _, rfl⟩
          have HX := Lib.hid (HBa.out _ HGw.out pg)
          have HY := Lib.hid (fun W g => HBb.out W g pg)
          rw [hxe] at HX HY
          have q1 : (x != x) = false := by simp
          have q2 : (e != e) = false := by simp
          clear hzs hz1 hc hxe
          go_wp2_with fail
          refine HX.out.mono ?_
          rintro e1 wb ⟨rfl, gb⟩
          have HGb := Lib.hid (grown_trans HGw.out gb)
          have hgb := Lib.hid (grown_trans HGi.out gb)
          clear gb kp HX
          go_wp2_with fail
          refine (HY.out _ HGb.out).mono ?_
          rintro e1 wd ⟨rfl, gd⟩
          have HGd := Lib.hid (grown_trans hgb.out gd)
          clear gd HY
          go_wp2_with fail
          go_roundw
          case rel => exact ⟨i + 1, by omega, by go_num, HGd⟩
          case measure => simp [intOf]; omega
        · obtain rfl : i = l := by omega
          have HG7i := Lib.hid (grown_trans HWa.out HGi.out)
          go_wp2_with fail
          go_roundw
          case rel => exact ⟨q + 1, by omega, by go_num, HG7i⟩
          case measure => simp [intOf]; omega
    · obtain rfl : q = I.length := by omega
      have HGf := Lib.hid (grown_trans HG7.out HGq.out)
      go_wp2_with fail
      go_ret
      exact ⟨rfl, HGf.out⟩
end
end Go.Proofs.YtefiiooibbkffaaGreat

namespace Go.Proofs.YtefiiooibbkffaaGreat
open Go.ChangeShapes Go.WideShapes Go.ChangeAt Go.RowKit Go.Deep Go.Sort
set_option linter.unusedVariables false
set_option linter.unusedSimpArgs false

def anyOwn (ρ : Ro) : Prop := ∃ t, own t ρ
theorem any_no : ¬ anyOwn .no := fun ⟨_, _, e⟩ => by cases e
/-- Worlds by their tags, boxes by their blocks. -/
def Sx (w0 wr : World) (Ws : List (Nat × Nat × Fl)) (Bs : List (Nat × Obj)) : Prop := ∃ kd, (∀ x, x ∈ Ws → ∃ h, FW wr kd x.1 x.2.1 h x.2.2) ∧ (∀ b, b ∈ Bs → wr.heap[b.1]? = some b.2 ∧ kd b.1 = .no) ∧ Ch anyOwn (fun _ => .no) kd w0 wr
section
variable {w0 wr w' : World} {t t2 r r2 : Nat} {S : Fl} {Ws : List (Nat × Nat × Fl)} {Bs : List (Nat × Obj)} {j : Nat} {n : Int} {o : FOp}
theorem Sx.grown (s : Sx w0 wr Ws Bs) : w0.grownBy wr none := by
  obtain ⟨kd, -, -, c⟩ := s
  exact c.noGrown fun _ _ => any_no
theorem Sx.sub (s : Sx w0 wr Ws Bs) {Ws' : List (Nat × Nat × Fl)} {Bs' : List (Nat × Obj)} (h1 : ∀ x, x ∈ Ws' → x ∈ Ws) (h2 : ∀ b, b ∈ Bs' → b ∈ Bs) : Sx w0 wr Ws' Bs' := by
  obtain ⟨kd, a, b, c⟩ := s
  exact ⟨kd, fun x hx => a x (h1 x hx), fun x hx => b x (h2 x hx), c⟩
theorem Sx.grow (s : Sx w0 wr Ws Bs) (g : wr.grownBy w' none) : Sx w0 w' Ws Bs := by
  obtain ⟨kd, a, b, c⟩ := s
  exact ⟨kd, fun x hx => (a x hx).imp fun h f => f.grow g, fun x hx => ⟨(g.block _ (heap_lt (b x hx).1) (by simp)).trans (b x hx).1, (b x hx).2⟩, c.trans (Ch.grown g)⟩
theorem Sx.box (s : Sx w0 wr Ws Bs) (ob : Obj) : Sx w0 (wr.alloc ob) Ws ((wr.heap.size, ob) :: Bs) := by
  obtain ⟨kd, a, b, c⟩ := s
  have cn := Ch.new noRo kd wr ob .no
  refine ⟨upd kd wr.heap.size .no, fun x hx => (a x hx).imp fun h f => f.chNo cn, fun x hx => ?_, c.trans (cn.mono fun _ e => (no_ro _ e).elim)⟩
  rcases List.mem_cons.1 hx with rfl | hx
  · exact ⟨heap_alloc_new wr ob, upd_same _ _ _⟩
  · obtain ⟨b1, b2⟩ := b x hx
    exact ⟨(cn.block _ (heap_lt b1) (no_ro _)).trans b1, (cn.kd _ (heap_lt b1)).trans b2⟩
theorem Sx.at (s : Sx w0 wr Ws Bs) {y : Nat} {ob : Obj} (h : (y, ob) ∈ Bs) : wr.heap[y]? = some ob := by
  obtain ⟨kd, -, b, -⟩ := s
  exact (b _ h).1
theorem Sx.nd (s : Sx w0 wr Ws Bs) (h : (t, r, S) ∈ Ws) : (S.ps.map (·.1)).Nodup := by
  obtain ⟨kd, a, -, -⟩ := s
  obtain ⟨g, f⟩ := a _ h
  exact f.bw.nd
theorem Sx.procs_ok (s : Sx w0 wr Ws Bs) (h : (t, r, S) ∈ Ws) (hok : SOk S) : Calls Tryz.prog 20 #[.pointer (some ⟨r, 0, none⟩)] wr fun e w' => ∃ u, e = .returned u ∧ RowOf zCells 1 w' u (sortI (S.ps.map (·.1))) ∧ wr.grownBy w' none := by
  obtain ⟨kd, a, -, -⟩ := s
  obtain ⟨g, f⟩ := a _ h
  refine (fprocs_ok f hok).mono ?_
  rintro e w' ⟨u, q1, q2, -, q3⟩
  exact ⟨u, q1, q2, q3⟩
theorem Sx.entries_ok (s : Sx w0 wr Ws Bs) (h : (t, r, S) ∈ Ws) (hok : SOk S) {id : Int} {p : Pr} (hi : okI id) (hp : geA S.ps id = some p) : Calls Tryz.prog 23 #[.pointer (some ⟨r, 0, none⟩), .int .i64 id] wr fun e w' => ∃ u, e = .returned u ∧ EOwn w' wr.heap.size u p.L ∧ wr.grownBy w' none := by
  obtain ⟨kd, a, -, -⟩ := s
  obtain ⟨g, f⟩ := a _ h
  exact fentries_ok f hok hi hp
theorem Sx.byte_ok (s : Sx w0 wr Ws Bs) (h : (t, r, S) ∈ Ws) (hok : SOk S) (id pg i : Int) (hi : okI id) {x e : Int} (hb : S.byte id pg i = (x, e)) : Calls Tryz.prog 21 #[.pointer (some ⟨r, 0, none⟩), .int .i64 id, .int .i64 pg, .int .i64 i] wr fun q w' => q = .returned (.tuple #[.int .i64 x, .int .i64 e]) ∧ wr.grownBy w' none := by
  obtain ⟨kd, a, -, -⟩ := s
  obtain ⟨g, f⟩ := a _ h
  have := fbyte_ok f hok id pg i hi
  rw [hb] at this
  exact this
theorem Sx.equal_ok (s : Sx w0 wr Ws Bs) (h1 : (t, r, S) ∈ Ws) (h2 : (t2, r2, S) ∈ Ws) (hok : SOk S) {q : Option Addr} {l c : Nat} {P : List (List Int)} (hP : IntRows wr q l 1 P) (hl : l ≤ 1000000) :
    Calls Tryz.prog 19 #[.pointer (some ⟨r, 0, none⟩), .pointer (some ⟨r2, 0, none⟩), .slice q l c] wr fun e w' => e = .returned (.bool true) ∧ wr.grownBy w' none := by
  obtain ⟨kd, a, -, -⟩ := s
  obtain ⟨g, f⟩ := a _ h1
  obtain ⟨g2, f2⟩ := a _ h2
  exact Go.Proofs.YtefiiooibbkffaaGreat.equal_ok f f2 hok hP hl
theorem Sx.do_ok (s : Sx w0 wr ((t, r, S) :: Ws) Bs) (ht : ∀ x, x ∈ Ws → x.1 ≠ t) (hs : SI S j n) (hj : j ≤ 150) (hn0 : 0 ≤ n) (hn : n ≤ 450) (o : FOp) (ho : OkO o) (hl : lightP o) :
    Calls Tryz.prog 15 #[.pointer (some ⟨r, 0, none⟩), .agg #[.int .i64 o.k, .int .i64 o.proc, .int .i64 o.addr, .int .i64 o.n, .int .i64 o.prot, .bool o.sh, .int .i64 o.file, .int .i64 o.off, .bool o.fixed, .int .i64 o.how, .int .i64 o.ati, .int .i64 o.v, .int .i64 o.hd, .int .i64 o.to]] wr fun e w' => e = .returned (.agg #[.int .i64 (S.act o).e, .int .i64 (S.doN o)]) ∧ Sx w0 w' ((t, r, (S.act o).S) :: Ws) Bs := by
  obtain ⟨kd, a, b, c⟩ := s
  obtain ⟨h, f⟩ := a (t, r, S) (by simp)
  refine (do_all f hs hj hn0 hn o ho hl).mono ?_
  rintro e w' ⟨he, kd2, h2, f2, c2⟩
  refine ⟨he, kd2, fun x hx => ?_, fun x hx => ?_, c.trans (c2.mono fun ρ e => ⟨t, e⟩)⟩
  · rcases List.mem_cons.1 hx with rfl | hx
    · exact ⟨h2, f2⟩
    · exact (a x (List.mem_cons_of_mem _ hx)).imp fun g f3 => f3.other c2 (ht x hx)
  · obtain ⟨b1, b2⟩ := b x hx
    exact ⟨(c2.block _ (heap_lt b1) (by rw [b2]; exact own_no)).trans b1, (c2.kd _ (heap_lt b1)).trans b2⟩
theorem Sx.copy_ok (s : Sx w0 wr ((t, r, S) :: Ws) Bs) (ht : t ≠ t2) (hok : SOk S) (hsz : ∀ q, q ∈ S.ps → ∀ x, x ∈ q.2.L → x.e - x.s ≤ 4096) :
    Calls Tryz.prog 18 #[.pointer (some ⟨r, 0, none⟩)] wr fun e w' => ∃ r2, e = .returned (.pointer (some ⟨r2, 0, none⟩)) ∧ Sx w0 w' ((t2, r2, S) :: (t, r, S) :: Ws) Bs := by
  obtain ⟨kd, a, b, c⟩ := s
  obtain ⟨h, f⟩ := a (t, r, S) (by simp)
  refine (Go.Proofs.YtefiiooibbkffaaGreat.copy_ok f hok hsz ht).mono ?_
  rintro e w' ⟨r2, kd2, h2, he, f2, c2, f1⟩
  refine ⟨r2, he, kd2, fun x hx => ?_, fun x hx => ?_, c.trans (c2.mono fun ρ e => (no_ro _ e).elim)⟩
  · rcases List.mem_cons.1 hx with rfl | hx
    · exact ⟨h2, f2⟩
    · exact (a x hx).imp fun g f3 => f3.chNo c2
  · obtain ⟨b1, b2⟩ := b x hx
    exact ⟨(c2.block _ (heap_lt b1) (no_ro _)).trans b1, (c2.kd _ (heap_lt b1)).trans b2⟩
theorem mem_sumK : ∀ (l : List En), (∀ x, x ∈ l → x.s ≤ x.e) → ∀ x, x ∈ l → x.e - x.s ≤ sumE l
  | [], _, x, hx => by cases hx
  | y :: l, h, x, hx => by
    have h0 : 0 ≤ sumE l := by
      clear hx
      induction l with
      | nil => exact Int.le_refl _
      | cons z l ih =>
        rw [sumE_cons]
        have h1 := h z (by simp)
        have h2 := ih fun u hu => h u (by rcases List.mem_cons.1 hu with e | e <;> simp [e])
        omega
    rw [sumE_cons]
    rcases List.mem_cons.1 hx with rfl | hx
    · omega
    · have h1 := h y (by simp)
      have h2 := mem_sumK l (fun u hu => h u (List.mem_cons_of_mem _ hu)) x hx
      omega
theorem si_size (h : SI S j n) (hn : n ≤ 4096) : ∀ q, q ∈ S.ps → ∀ x, x ∈ q.2.L → x.e - x.s ≤ 4096 := fun q hq x hx => by
  have h1 : LI q.2.L n (1000 + j) := (h.ps.pr q hq).1
  have h2 := mem_sumK q.2.L (rf_le h1.mp.rf) x hx
  have h3 := h1.sm
  omega
/-! ### what is refused -/
theorem turned_same {id : Int} {p : Pr} (hp : geA S.ps id = some p) (hn : (S.ps.map (·.1)).Nodup) {d : Did} (hl : d.l = p.L) : (S.turned id p d).S = S := by
  show ({ S with ps := setP S.ps id ⟨d.l, p.A⟩ } : Fl) = S
  rw [hl, show (⟨p.L, p.A⟩ : Pr) = p from rfl, setP_same S.ps hn hp]
theorem prot_same {l : List En} {lo m q : Int} (h : (protV l lo m q).err ≠ 0) : (protV l lo m q).l = l := by
  unfold protV at h ⊢
  split
  · split
    · split
      · simp_all
      · rfl
    · rfl
  · rfl
theorem other_same {l : List En} {lo m k v most : Int} {on : Bool} (h : (otherV l lo m k v most on).err ≠ 0) : (otherV l lo m k v most on).l = l := by
  unfold otherV at h ⊢
  split
  · split
    · simp_all
    · rfl
  · rfl
theorem send_err {p : Pr} (h : (S.send p o).e ≠ 0) : (S.send p o).S = S := by
  cases ht : geA S.ps o.to with
  | none => rw [send_no7 ht]; rfl
  | some tp =>
    by_cases hm : mayB3 o.addr o.n = true
    · by_cases hl : (S.loadAll p o.addr (o.addr + o.n)).2 = 0
      · by_cases he : (S.lay o.to tp (layO o.n)).e = 0
        · cases h2 : geA (S.lay o.to tp (layO o.n)).S.ps o.to with
          | none =>
            unfold Fl.send
            rw [ht]
            simp only
            rw [if_pos hm, if_pos hl, if_pos he, h2]
            rfl
          | some t2 =>
            rw [send_all ht hm hl he h2] at h
            exact (h rfl).elim
        · rw [send_noE ht hm hl he]; rfl
      · rw [send_noL ht hm hl]; rfl
    · rw [send_no2 ht hm]; rfl
theorem act_err (hn : (S.ps.map (·.1)).Nodup) (h : (S.act o).e ≠ 0) : (S.act o).S = S := by
  by_cases hnm : namesB o.k = true
  · cases hp : geA S.ps o.proc with
    | none => rw [act_N hnm hp]; rfl
    | some p =>
      rw [act_P hnm hp] at h ⊢
      unfold Fl.actP at h ⊢
      rcases names_cases hnm with hk | hk | hk | hk | hk | hk | hk | hk | hk | hk | hk | hk | hk <;> simp only [hk] at h ⊢
      · exact lay_err h
      · have h1 : (S.unmap p o).e ≠ 0 := h
        show (S.unmap p o).S = S
        unfold Fl.unmap at h1 ⊢
        split
        · next e => rw [if_pos e] at h1; exact (h1 rfl).elim
        · rfl
      · exact turned_same hp hn (prot_same h)
      · exact turned_same hp hn (other_same h)
      · have h1 : (S.advise p o).e ≠ 0 := h
        show (S.advise p o).S = S
        unfold Fl.advise at h1 ⊢
        split
        · next e => rw [if_pos e] at h1; exact (h1 rfl).elim
        · next e => rw [if_neg e] at h1; exact turned_same hp hn (other_same h1)
      · exact turned_same hp hn (other_same h)
      · exact turned_same hp hn (other_same h)
      · rfl
      · have h1 : (S.store p o).e ≠ 0 := h
        show (S.store p o).S = S
        unfold Fl.store at h1 ⊢
        split
        · next e =>
          rw [if_pos e] at h1
          split
          · rfl
          · next x hx =>
            rw [hx] at h1
            simp only at h1
            split at h1 <;> exact (h1 rfl).elim
        · rfl
      · have h1 : (S.fork o.proc p).e ≠ 0 := h
        show (S.fork o.proc p).S = S
        unfold Fl.fork at h1 ⊢
        split
        · next e => rw [if_pos e] at h1; exact (h1 rfl).elim
        · rfl
      · exact (h rfl).elim
      · have h1 : (S.lend p o).e ≠ 0 := h
        show (S.lend p o).S = S
        unfold Fl.lend at h1 ⊢
        split
        · next e =>
          rw [if_pos e] at h1
          split
          · next e2 => rw [if_pos e2] at h1; exact (h1 rfl).elim
          · rfl
        · rfl
      · exact send_err h
  · unfold Fl.act at h ⊢
    rw [if_neg hnm] at h ⊢
    split
    · exact peek_S
    · next k13 =>
      rw [if_neg k13] at h
      split
      · next k14 =>
        rw [if_pos k14] at h
        unfold Fl.back at h ⊢
        split
        · rfl
        · next b hb => rw [hb] at h; exact (h rfl).elim
      · next k14 =>
        rw [if_neg k14] at h
        split
        · next k15 =>
          rw [if_pos k15] at h
          unfold Fl.put at h ⊢
          split
          · next e => rw [if_pos e] at h; exact (h rfl).elim
          · rfl
        · next k15 =>
          rw [if_neg k15] at h
          split
          · rfl
          · next k16 =>
            rw [if_neg k16] at h
            split
            · next k17 =>
              rw [if_pos k17] at h
              unfold Fl.size at h ⊢
              split
              · next e =>
                rw [if_pos e] at h
                split
                · next e2 => rw [if_pos e2] at h; exact (h rfl).elim
                · rfl
              · rfl
            · next k17 =>
              split
              · exact sync_n.2
              · split <;> rfl
theorem doN_err (h : (S.act o).e ≠ 0) : S.doN o = 0 := by unfold Fl.doN; rw [if_neg h]
theorem fork_len17 (hk : o.k = 10) (h : (S.act o).e = 0) : (S.act o).S.ps.length = S.ps.length + 1 := by
  have hnm : namesB o.k = true := by rw [hk]; decide
  cases hp : geA S.ps o.proc with
  | none => rw [act_N hnm hp] at h; cases h
  | some p =>
    have e1 : S.act o = S.fork o.proc p := by rw [act_P hnm hp]; unfold Fl.actP; simp only [hk]; rfl
    rw [e1] at h ⊢
    unfold Fl.fork at h ⊢
    split
    · show ((lowA S.ps, _) :: setP S.ps o.proc _).length = _
      rw [List.length_cons]
      unfold setP
      rw [List.length_map]
    · next e => rw [if_neg e] at h; cases h
end
end Go.Proofs.YtefiiooibbkffaaGreat

namespace Go.Proofs.YtefiiooibbkffaaGreat
open Go.ChangeShapes Go.WideShapes Go.ChangeAt Go.RowKit Go.Deep Go.Sort
set_option linter.unusedVariables false
set_option linter.unusedSimpArgs false

theorem Sx.procsN {w0 wr : World} {t r : Nat} {S : Fl} {Ws : List (Nat × Nat × Fl)} {Bs : List (Nat × Obj)} (s : Sx w0 wr Ws Bs) (h : (t, r, S) ∈ Ws) (hok : SOk S) {N : Nat} (hN : S.ps.length = N) : Calls Tryz.prog 20 #[.pointer (some ⟨r, 0, none⟩)] wr fun e w' => ∃ q c, e = .returned (.slice q N c) ∧ wr.grownBy w' none := by
  refine (s.procs_ok h hok).mono ?_
  rintro e w' ⟨u, rfl, q2, q3⟩
  obtain ⟨q, c, rfl⟩ := rowOf_form q2
  rw [sortI_length, List.length_map, hN]
  exact ⟨q, c, rfl, q3⟩
/-- What boxes say. -/
theorem box_cells {w0 : World} {y8 y10 : Nat} {o : FOp} {er nr : Int} {W : World} {Ws : List (Nat × Nat × Fl)} (s : Sx w0 W Ws [(y10, .cells #[.int .i64 er, .int .i64 nr] 36 (0, 0)), (y8, .cells #[.int .i64 o.k, .int .i64 o.proc, .int .i64 o.addr, .int .i64 o.n, .int .i64 o.prot, .bool o.sh, .int .i64 o.file, .int .i64 o.off, .bool o.fixed, .int .i64 o.how, .int .i64 o.ati, .int .i64 o.v, .int .i64 o.hd, .int .i64 o.to] 34 (0, 0))]) :
    W.cell? ⟨y8, 0, none⟩ = some (.int .i64 o.k) ∧ W.cell? ⟨y8, 1, none⟩ = some (.int .i64 o.proc) ∧ W.cell? ⟨y8, 2, none⟩ = some (.int .i64 o.addr) ∧ W.cell? ⟨y8, 3, none⟩ = some (.int .i64 o.n) ∧ W.cell? ⟨y8, 4, none⟩ = some (.int .i64 o.prot) ∧ W.cell? ⟨y8, 5, none⟩ = some (.bool o.sh) ∧ W.cell? ⟨y8, 6, none⟩ = some (.int .i64 o.file) ∧ W.cell? ⟨y8, 7, none⟩ = some (.int .i64 o.off) ∧ W.cell? ⟨y8, 8, none⟩ = some (.bool o.fixed) ∧ W.cell? ⟨y8, 9, none⟩ = some (.int .i64 o.how) ∧ W.cell? ⟨y8, 10, none⟩ = some (.int .i64 o.ati) ∧ W.cell? ⟨y8, 11, none⟩ = some (.int .i64 o.v) ∧ W.cell? ⟨y8, 12, none⟩ = some (.int .i64 o.hd) ∧ W.cell? ⟨y8, 13, none⟩ = some (.int .i64 o.to) ∧ W.cell? ⟨y10, 0, none⟩ = some (.int .i64 er) ∧ W.cell? ⟨y10, 1, none⟩ = some (.int .i64 nr) := by
  have h8 : OpB W y8 o := s.at (by simp)
  have h10 : W.heap[y10]? = some (.cells #[.int .i64 er, .int .i64 nr] 36 (0, 0)) := s.at (by simp)
  obtain ⟨c0, c1, c2, c3, c4, c5, c6, c7, c8, c9, c10, c11, c12, c13⟩ := h8.at
  exact ⟨c0, c1, c2, c3, c4, c5, c6, c7, c8, c9, c10, c11, c12, c13, by rw [cell_of_row _ _ _ _ _ _ h10]; rfl, by rw [cell_of_row _ _ _ _ _ _ h10]; rfl⟩
theorem IntRows.grow17 {w w' : World} {s : Option Addr} {l n : Nat} {P : List (List Int)} (h : IntRows w s l n P) (g : w.grownBy w' none) : IntRows w' s l n P := ⟨h.len, h.each, h.cells.imp id fun ⟨b, o, hs, hc⟩ => ⟨b, o, hs, fun i zs hi j z hz => (World.cell?_of_block (a := ⟨b, o + i * n + j, none⟩) (g.block b (World.block_lt_of_cell? w _ (hc i zs hi j z hz)) (by simp))).trans (hc i zs hi j z hz)⟩⟩
set_option maxRecDepth 100000 in
set_option maxHeartbeats 64000000 in
theorem keeps_walk {W : World} {s0 s2 : Option Addr} {l0 c0 l2 c2 : Nat} {A0 : List FOp} {P : List (List Int)} (act0 : OpsAre W s0 l0 A0) (act2 : IntRows W s2 l2 1 P) :
    Calls Tryz.prog 4 #[.slice s0 l0 c0, .slice s2 l2 c2] W fun e w' => e = .returned (.bool true) ∧ W.grownBy w' none := by
  have HLv := Lib.hid (fun wx => lives_ok wx)
  have HL0 := Lib.hid (light_ok (c := c0) act0 30 (by omega) (by omega))
  have HA0 := Lib.hid act0
  have HA2 := Lib.hid act2
  have hll := act0.len
  clear act0 act2
  go_enter Tryz.func4, Tryz.ntmps4
  go_wp2_with fail
  refine HL0.out.mono ?_
  rintro e w1 ⟨b0, rfl, g1, hb0⟩
  have HG1 := Lib.hid g1
  clear g1 HL0
  cases b0 with
  | false =>
    clear hb0
    go_wp2_with fail
    refine (HLv.out _).mono ?_
    rintro e1 wl ⟨rfl, gl⟩
    have HGl := Lib.hid (grown_trans HG1.out gl)
    clear gl
    go_wp2_with fail
    go_ret
    exact ⟨rfl, HGl.out⟩
  | true =>
    obtain ⟨h01, h02, h03⟩ := hb0 rfl
    clear hb0
    by_cases hp : (l2 : Int) > 20
    · have b1 : decide ((l2 : Int) > 20) = true := decide_eq_true hp
      clear hp h01 h02 h03
      go_wp2_with fail
      refine (HLv.out _).mono ?_
      rintro e1 wl ⟨rfl, gl⟩
      have HGl := Lib.hid (grown_trans HG1.out gl)
      clear gl
      go_wp2_with fail
      go_ret
      exact ⟨rfl, HGl.out⟩
    have b1 : decide ((l2 : Int) > 20) = false := decide_eq_false hp
    have hl2 : l2 ≤ 20 := by omega
    have H02 := Lib.hid h02
    have HSi := Lib.hid (fun q (hq : q ≤ A0.length) => show SI (runF (newF [3, 2]) (A0.take q)) 30 200 by
      have h1 := si_new.run (Int.le_refl _) (os := A0) (by omega) q hq
      have h2 := pgsO_le A0 q
      exact h1.mono (by omega) (by omega))
    have hz : ZR (w1.alloc (.cells #[.int .i64 3, .int .i64 2] 3)) (.slice (some ⟨w1.heap.size, 0, none⟩) [3, 2].length 2) [3, 2] := .inl ⟨rfl, .inr ⟨w1.heap.size, 0, 2, rfl, by rw [World.size_alloc]; omega, fun j u hu => by
      rw [cell_of_row _ _ _ _ _ _ (heap_alloc_new w1 _), Nat.zero_add]
      match j, hu with
      | 0, hu => exact hu
      | 1, hu => exact hu⟩⟩
    have HN := Lib.hid (new_yes (w1.alloc (.cells #[.int .i64 3, .int .i64 2] 3)) (fun _ => .no) 0 hz (by kernel_rfl))
    clear hz hp h02 h03
    go_wp2_with fail
    refine HN.out.mono ?_
    rintro e w3 ⟨r, kd3, h3, rfl, k3, c3⟩
    have HS3 := Lib.hid (show Sx w1 w3 [(0, r, runF (newF [3, 2]) (A0.take 0))] [] from ⟨kd3, fun x hx => by
      have : x = (0, r, newF [3, 2]) := by simpa [runF] using hx
      subst this
      exact ⟨h3, k3⟩, fun b hb => (by cases hb), (Ch.grown (World.grownBy_alloc w1 _ none)).trans (c3.mono fun _ e => (no_ro _ e).elim)⟩)
    clear k3 c3 HN
    go_wp2_with fail
    go_loopw [30] (fun iv wr => ∃ q : Nat, q ≤ l0 ∧ iv = .int .i64 q ∧ Hid (Sx w1 wr [(0, r, runF (newF [3, 2]) (A0.take q))] [])) (fun iv _ => l0 - (intOf iv).toNat)
    case atStart => exact ⟨0, by omega, rfl, HS3⟩
    case round =>
      obtain ⟨q, hq, rfl, HSq⟩ := hrel
      clear HS3
      by_cases hlt : q < l0
      · obtain ⟨o, ho⟩ : ∃ o, A0[q]? = some o := ⟨_, List.getElem?_eq_getElem (by omega)⟩
        obtain ⟨g, p0, hs, ha⟩ := HA0.out.at (grown_trans HG1.out HSq.out.grown) ho
        subst hs
        obtain ⟨c0, c1, c2, c3, c4, c5, c6, c7, c8, c9, c10, c11, c12, c13⟩ := ha
        have hmem := List.mem_of_getElem? ho
        have HOo := Lib.hid (HA0.out.ok o hmem)
        have HOl := Lib.hid (H02.out o hmem)
        have HNx := Lib.hid (runF_next (S := newF [3, 2]) ho)
        have HSI := Lib.hid (HSi.out q (by omega))
        have HSI2 := Lib.hid (show SI (runF (newF [3, 2]) (A0.take (q + 1))) 30 200 from HSi.out (q + 1) (by omega))
        rw [HNx.out] at HSI2
        obtain ⟨S, hS⟩ : ∃ S, runF (newF [3, 2]) (A0.take q) = S := ⟨_, rfl⟩
        rw [hS] at HNx HSI HSI2 HSq
        have HNd := Lib.hid (HSq.out.nd (t := 0) (r := r) (S := S) (by simp))
        have HSA := Lib.hid (HSq.out.box (.cells #[.int .i64 o.k, .int .i64 o.proc, .int .i64 o.addr, .int .i64 o.n, .int .i64 o.prot, .bool o.sh, .int .i64 o.file, .int .i64 o.off, .bool o.fixed, .int .i64 o.how, .int .i64 o.ati, .int .i64 o.v, .int .i64 o.hd, .int .i64 o.to] 34))
        have HC1 := Lib.hid (HSA.out.copy_ok (t2 := 1) (by decide) (HSI.out.ok (by omega) (by omega)) (si_size HSI.out (by omega)))
        clear ho hmem hS HSq
        go_wp2_with fail
        generalize wr.heap.size = y8 at *
        generalize hwA : wr.alloc (.cells #[.int .i64 o.k, .int .i64 o.proc, .int .i64 o.addr, .int .i64 o.n, .int .i64 o.prot, .bool o.sh, .int .i64 o.file, .int .i64 o.off, .bool o.fixed, .int .i64 o.how, .int .i64 o.ati, .int .i64 o.v, .int .i64 o.hd, .int .i64 o.to] 34) = wA at *
        clear hwA c0 c1 c2 c3 c4 c5 c6 c7 c8 c9 c10 c11 c12 c13 HSA
        refine HC1.out.mono ?_
        rintro e w4 ⟨r1, rfl, hs4⟩
        have HS4 := Lib.hid hs4
        have hB4 : OpB w4 y8 o := hs4.at (by simp)
        obtain ⟨d0, d1, d2, d3, d4, d5, d6, d7, d8, d9, d10, d11, d12, d13⟩ := hB4.at
        have HD1 := Lib.hid (hs4.do_ok (by intro x hx; simp at hx; subst hx; simp) HSI.out (by omega) (by omega) (by omega) o HOo.out HOl.out)
        have HEr := Lib.hid (fun h : (S.act o).e ≠ 0 => And.intro (act_err HNd.out h) (doN_err h))
        have HFk := Lib.hid (fun h1 : o.k = 10 => fun h2 : (S.act o).e = 0 => fork_len17 h1 h2)
        obtain ⟨S2, hS2⟩ : ∃ S2, (S.act o).S = S2 := ⟨_, rfl⟩
        obtain ⟨er, her⟩ : ∃ er, (S.act o).e = er := ⟨_, rfl⟩
        obtain ⟨nr, hnr⟩ : ∃ nr, S.doN o = nr := ⟨_, rfl⟩
        have HAE := Lib.hid (And.intro hS2 (And.intro her hnr))
        rw [hS2] at HD1 HEr HFk HSI2 HNx
        rw [her] at HD1 HEr HFk
        rw [hnr] at HD1 HEr
        clear hS2 her hnr
        clear hs4 hB4 HC1
        go_wp2_with fail
        refine HD1.out.mono ?_
        rintro e w5 ⟨rfl, hs5⟩
        have HS5 := Lib.hid (hs5.box (.cells #[.int .i64 er, .int .i64 nr] 36))
        clear hs5 HD1 HS4 d0 d1 d2 d3 d4 d5 d6 d7 d8 d9 d10 d11 d12 d13
        obtain ⟨y10, hy10⟩ : ∃ y10, w5.heap.size = y10 := ⟨_, rfl⟩
        rw [hy10] at HS5
        obtain ⟨wB, hwB⟩ : ∃ wB, w5.alloc (.cells #[.int .i64 er, .int .i64 nr] 36) = wB := ⟨_, rfl⟩
        rw [hwB] at HS5
        obtain ⟨-, -, -, -, -, -, -, -, -, -, -, -, -, -, e0, e1⟩ := box_cells HS5.out
        have HTl := Lib.hid (fun (wx : World) (s : Sx w1 wx [(1, r1, S2), (0, r, S)] [(y10, .cells #[.int .i64 er, .int .i64 nr] 36 (0, 0)), (y8, .cells #[.int .i64 o.k, .int .i64 o.proc, .int .i64 o.addr, .int .i64 o.n, .int .i64 o.prot, .bool o.sh, .int .i64 o.file, .int .i64 o.off, .bool o.fixed, .int .i64 o.how, .int .i64 o.ati, .int .i64 o.v, .int .i64 o.hd, .int .i64 o.to] 34 (0, 0))]) => (s.sub (Ws' := [(0, r, S), (1, r1, S2)]) (by intro x hx; simp at hx ⊢; rcases hx with h | h <;> simp [h]) (fun _ h => h)).copy_ok (t2 := 2) (by decide) (HSI.out.ok (by omega) (by omega)) (si_size HSI.out (by omega)))
        by_cases he : er = 0
        · subst he
          have HFk := Lib.hid (fun h1 : o.k = 10 => HFk.out h1 rfl)
          have b2 : ((0 : Int) != 0) = false := by decide
          go_wp2_with fail
          refine (HTl.out _ HS5.out).mono ?_
          rintro e w7 ⟨r2, rfl, hs7⟩
          have HS7 := Lib.hid (show Sx w1 w7 [(0, r, S), (2, r2, S), (1, r1, S2)] [(y10, .cells #[.int .i64 0, .int .i64 nr] 36 (0, 0)), (y8, .cells #[.int .i64 o.k, .int .i64 o.proc, .int .i64 o.addr, .int .i64 o.n, .int .i64 o.prot, .bool o.sh, .int .i64 o.file, .int .i64 o.off, .bool o.fixed, .int .i64 o.how, .int .i64 o.ati, .int .i64 o.v, .int .i64 o.hd, .int .i64 o.to] 34 (0, 0))] from hs7.sub (by intro x hx; simp at hx ⊢; rcases hx with h | h | h <;> simp [h]) (fun _ h => h))
          have HSd := Lib.hid (HS7.out.grow (grown_drew1 w7))
          have hk7 := box_cells HS7.out
          have hkd := box_cells HSd.out
          have HDd := Lib.hid (HSd.out.do_ok (by intro x hx; simp at hx; rcases hx with h | h <;> subst h <;> simp) HSI.out (by omega) (by omega) (by omega) o HOo.out HOl.out)
          rw [HAE.out.1, HAE.out.2.1, HAE.out.2.2] at HDd
          have HCx := Lib.hid (fun (wx : World) (s : Sx w1 wx [(0, r, S2), (2, r2, S), (1, r1, S2)] [(y10, .cells #[.int .i64 0, .int .i64 nr] 36 (0, 0)), (y8, .cells #[.int .i64 o.k, .int .i64 o.proc, .int .i64 o.addr, .int .i64 o.n, .int .i64 o.prot, .bool o.sh, .int .i64 o.file, .int .i64 o.off, .bool o.fixed, .int .i64 o.how, .int .i64 o.ati, .int .i64 o.v, .int .i64 o.hd, .int .i64 o.to] 34 (0, 0))]) => box_cells s)
          have HEq := Lib.hid (fun (wx : World) (s : Sx w1 wx [(0, r, S2), (2, r2, S), (1, r1, S2)] [(y10, .cells #[.int .i64 0, .int .i64 nr] 36 (0, 0)), (y8, .cells #[.int .i64 o.k, .int .i64 o.proc, .int .i64 o.addr, .int .i64 o.n, .int .i64 o.prot, .bool o.sh, .int .i64 o.file, .int .i64 o.off, .bool o.fixed, .int .i64 o.how, .int .i64 o.ati, .int .i64 o.v, .int .i64 o.hd, .int .i64 o.to] 34 (0, 0))]) => s.equal_ok (t := 0) (t2 := 1) (r := r) (r2 := r1) (by simp) (by simp) (HSI2.out.ok (by omega) (by omega)) (P := P) (c := c2) (IntRows.grow17 HA2.out (grown_trans HG1.out s.grown)) (by omega))
          clear hs7 HTl HS7
          by_cases hk10 : o.k = 10
          · have b4 : (o.k == 10) = true := by simpa using hk10
            obtain ⟨N1, hN1⟩ : ∃ N1, S.ps.length = N1 := ⟨_, rfl⟩
            obtain ⟨N2, hN2⟩ : ∃ N2, S2.ps.length = N2 := ⟨_, rfl⟩
            have hNN : N2 = N1 + 1 := by rw [← hN1, ← hN2]; first | exact HFk.out hk10 | exact HFk.out hk10 trivial
            have hN16 : N1 ≤ 16 := by rw [← hN1]; exact HSI.out.ps.pl
            have hwr : IntKind.i64.wrap ((N2 : Int) - 1) = (N1 : Int) := by rw [IntKind.wrap_i64]; omega
            have HPd := Lib.hid (fun (wx : World) (s : Sx w1 wx [(0, r, S2), (2, r2, S), (1, r1, S2)] [(y10, .cells #[.int .i64 0, .int .i64 nr] 36 (0, 0)), (y8, .cells #[.int .i64 o.k, .int .i64 o.proc, .int .i64 o.addr, .int .i64 o.n, .int .i64 o.prot, .bool o.sh, .int .i64 o.file, .int .i64 o.off, .bool o.fixed, .int .i64 o.how, .int .i64 o.ati, .int .i64 o.v, .int .i64 o.hd, .int .i64 o.to] 34 (0, 0))]) => s.procsN (t := 2) (r := r2) (by simp) (HSI.out.ok (by omega) (by omega)) hN1)
            have HPw := Lib.hid (fun (wx : World) (s : Sx w1 wx [(0, r, S2), (2, r2, S), (1, r1, S2)] [(y10, .cells #[.int .i64 0, .int .i64 nr] 36 (0, 0)), (y8, .cells #[.int .i64 o.k, .int .i64 o.proc, .int .i64 o.addr, .int .i64 o.n, .int .i64 o.prot, .bool o.sh, .int .i64 o.file, .int .i64 o.off, .bool o.fixed, .int .i64 o.how, .int .i64 o.ati, .int .i64 o.v, .int .i64 o.hd, .int .i64 o.to] 34 (0, 0))]) => s.procsN (t := 0) (r := r) (by simp) (HSI2.out.ok (by omega) (by omega)) hN2)
            clear hN1 hN2 hNN hk10
            go_upto_region 14 with fail
            refine wp_region_held_drew (S := fun w7 => w7.cell? ⟨y8, 0, none⟩ = some (.int .i64 o.k) ∧ w7.cell? ⟨y8, 1, none⟩ = some (.int .i64 o.proc) ∧ w7.cell? ⟨y8, 2, none⟩ = some (.int .i64 o.addr) ∧ w7.cell? ⟨y8, 3, none⟩ = some (.int .i64 o.n) ∧ w7.cell? ⟨y8, 4, none⟩ = some (.int .i64 o.prot) ∧ w7.cell? ⟨y8, 5, none⟩ = some (.bool o.sh) ∧ w7.cell? ⟨y8, 6, none⟩ = some (.int .i64 o.file) ∧ w7.cell? ⟨y8, 7, none⟩ = some (.int .i64 o.off) ∧ w7.cell? ⟨y8, 8, none⟩ = some (.bool o.fixed) ∧ w7.cell? ⟨y8, 9, none⟩ = some (.int .i64 o.how) ∧ w7.cell? ⟨y8, 10, none⟩ = some (.int .i64 o.ati) ∧ w7.cell? ⟨y8, 11, none⟩ = some (.int .i64 o.v) ∧ w7.cell? ⟨y8, 12, none⟩ = some (.int .i64 o.hd) ∧ w7.cell? ⟨y8, 13, none⟩ = some (.int .i64 o.to) ∧ w7.cell? ⟨y10, 0, none⟩ = some (.int .i64 0) ∧ w7.cell? ⟨y10, 1, none⟩ = some (.int .i64 nr)) (by kernel_rfl) hkd (fun hHeld => ?_)
            refine wpAnyH_take (i := 0) (oi := _) (v := ?_) rfl (by kernel_rfl) (by kernel_rfl) (by kernel_rfl) (fun _ _ _ h => h) (Or.inl ⟨by rfl, ?_⟩) (by assumption) ?_
            rotate_left
            · intro w hSw
              try dsimp only at hSw
              try simp only [List.getElem_toArray, List.getElem_cons_succ, List.getElem_cons_zero]
              go_simp
              try with_reducible rfl
            try simp only [List.getElem_toArray, List.getElem_cons_succ, List.getElem_cons_zero, Act.put, List.setIfInBounds_toArray, List.set_cons_zero, List.set_cons_succ]
            refine wpAnyH_take (i := 1) (oi := _) (v := ?_) rfl (by kernel_rfl) (by kernel_rfl) (by kernel_rfl) (fun _ _ _ h => h) (Or.inl ⟨by rfl, ?_⟩) (by assumption) ?_
            rotate_left
            · intro w hSw
              try dsimp only at hSw
              try simp only [List.getElem_toArray, List.getElem_cons_succ, List.getElem_cons_zero]
              go_simp
              try with_reducible rfl
            try simp only [List.getElem_toArray, List.getElem_cons_succ, List.getElem_cons_zero, Act.put, List.setIfInBounds_toArray, List.set_cons_zero, List.set_cons_succ]
            refine wpAnyH_take (i := 3) (oi := _) (v := ?_) rfl (by kernel_rfl) (by kernel_rfl) (by kernel_rfl) (fun _ _ _ h => h) (Or.inl ⟨by rfl, ?_⟩) (by assumption) ?_
            rotate_left
            · intro w hSw
              try dsimp only at hSw
              try simp only [List.getElem_toArray, List.getElem_cons_succ, List.getElem_cons_zero]
              go_simp
              try with_reducible rfl
            try simp only [List.getElem_toArray, List.getElem_cons_succ, List.getElem_cons_zero, Act.put, List.setIfInBounds_toArray, List.set_cons_zero, List.set_cons_succ]
            refine wpAnyH_ready (rs := [2]) (by kernel_rfl) (by simp) ?_
            refine AllReadyH.cons (o := _) rfl (fun K hK => ?_) AllReadyH.nil
            try simp only [List.getElem_toArray, List.getElem_cons_succ, List.getElem_cons_zero]
            go_simp
            go_at_call 15
            refine HDd.out.mono ?_
            rintro e w8 ⟨rfl, hs8⟩
            have HS8 := Lib.hid hs8
            have hk8 := HCx.out _ hs8
            clear hs8
            try (go_wp2_with fail)
            refine hK.out _ _ hk8 (fun hHeld => ?_)
            clear hK K
            try simp only [Act.put, List.setIfInBounds_toArray, List.set_cons_zero, List.set_cons_succ]
            refine wpAnyH_take (i := 4) (oi := _) (v := ?_) rfl (by kernel_rfl) (by kernel_rfl) (by kernel_rfl) (fun _ _ _ h => h) (Or.inl ⟨by rfl, ?_⟩) (by assumption) ?_
            rotate_left
            · intro w hSw
              try dsimp only at hSw
              try simp only [List.getElem_toArray, List.getElem_cons_succ, List.getElem_cons_zero]
              go_simp
              try with_reducible rfl
            try simp only [List.getElem_toArray, List.getElem_cons_succ, List.getElem_cons_zero, Act.put, List.setIfInBounds_toArray, List.set_cons_zero, List.set_cons_succ]
            refine wpAnyH_take (i := 5) (oi := _) (v := ?_) rfl (by kernel_rfl) (by kernel_rfl) (by kernel_rfl) (fun _ _ _ h => h) (Or.inl ⟨by rfl, ?_⟩) (by assumption) ?_
            rotate_left
            · intro w hSw
              try dsimp only at hSw
              try simp only [List.getElem_toArray, List.getElem_cons_succ, List.getElem_cons_zero]
              go_simp
              try with_reducible rfl
            try simp only [List.getElem_toArray, List.getElem_cons_succ, List.getElem_cons_zero, Act.put, List.setIfInBounds_toArray, List.set_cons_zero, List.set_cons_succ]
            refine wpAnyH_take (i := 6) (oi := _) (v := ?_) rfl (by kernel_rfl) (by kernel_rfl) (by kernel_rfl) (fun _ _ _ h => h) (Or.inl ⟨by rfl, ?_⟩) (by assumption) ?_
            rotate_left
            · intro w hSw
              try dsimp only at hSw
              try simp only [List.getElem_toArray, List.getElem_cons_succ, List.getElem_cons_zero]
              go_simp
              try with_reducible rfl
            try simp only [List.getElem_toArray, List.getElem_cons_succ, List.getElem_cons_zero, Act.put, List.setIfInBounds_toArray, List.set_cons_zero, List.set_cons_succ]
            refine wpAnyH_take (i := 7) (oi := _) (v := ?_) rfl (by kernel_rfl) (by kernel_rfl) (by kernel_rfl) (fun _ _ _ h => h) (Or.inl ⟨by rfl, ?_⟩) (by assumption) ?_
            rotate_left
            · intro w hSw
              try dsimp only at hSw
              try simp only [List.getElem_toArray, List.getElem_cons_succ, List.getElem_cons_zero]
              go_simp
              try with_reducible rfl
            try simp only [List.getElem_toArray, List.getElem_cons_succ, List.getElem_cons_zero, Act.put, List.setIfInBounds_toArray, List.set_cons_zero, List.set_cons_succ]
            refine wpAnyH_take (i := 8) (oi := _) (v := ?_) rfl (by kernel_rfl) (by kernel_rfl) (by kernel_rfl) (fun _ _ _ h => h) (Or.inl ⟨by rfl, ?_⟩) (by assumption) ?_
            rotate_left
            · intro w hSw
              try dsimp only at hSw
              try simp only [List.getElem_toArray, List.getElem_cons_succ, List.getElem_cons_zero]
              go_simp
              try with_reducible rfl
            try simp only [List.getElem_toArray, List.getElem_cons_succ, List.getElem_cons_zero, Act.put, List.setIfInBounds_toArray, List.set_cons_zero, List.set_cons_succ]
            refine wpAnyH_ready (rs := [9]) (by kernel_rfl) (by simp) ?_
            refine AllReadyH.cons (o := _) rfl (fun K hK => ?_) AllReadyH.nil
            try simp only [List.getElem_toArray, List.getElem_cons_succ, List.getElem_cons_zero]
            go_simp
            go_at_call 19
            refine (HEq.out _ HS8.out).mono ?_
            rintro e w9 ⟨rfl, g9⟩
            have HS9 := Lib.hid (HS8.out.grow g9)
            have hk9 := HCx.out _ HS9.out
            clear g9
            try (go_wp2_with fail)
            refine hK.out _ _ hk9 (fun hHeld => ?_)
            clear hK K
            try simp only [Act.put, List.setIfInBounds_toArray, List.set_cons_zero, List.set_cons_succ]
            refine wpAnyH_take (i := 10) (oi := _) (v := ?_) rfl (by kernel_rfl) (by kernel_rfl) (by kernel_rfl) (fun _ _ _ h => h) (Or.inl ⟨by rfl, ?_⟩) (by assumption) ?_
            rotate_left
            · intro w hSw
              try dsimp only at hSw
              try simp only [List.getElem_toArray, List.getElem_cons_succ, List.getElem_cons_zero]
              go_simp
              try with_reducible rfl
            try simp only [List.getElem_toArray, List.getElem_cons_succ, List.getElem_cons_zero, Act.put, List.setIfInBounds_toArray, List.set_cons_zero, List.set_cons_succ]
            refine wpAnyH_take (i := 11) (oi := _) (v := ?_) rfl (by kernel_rfl) (by kernel_rfl) (by kernel_rfl) (fun _ _ _ h => h) (Or.inl ⟨by rfl, ?_⟩) (by assumption) ?_
            rotate_left
            · intro w hSw
              try dsimp only at hSw
              try simp only [List.getElem_toArray, List.getElem_cons_succ, List.getElem_cons_zero]
              go_simp
              try with_reducible rfl
            try simp only [List.getElem_toArray, List.getElem_cons_succ, List.getElem_cons_zero, Act.put, List.setIfInBounds_toArray, List.set_cons_zero, List.set_cons_succ]
            refine wpAnyH_take (i := 12) (oi := _) (v := ?_) rfl (by kernel_rfl) (by kernel_rfl) (by kernel_rfl) (fun _ _ _ h => h) (Or.inl ⟨by rfl, ?_⟩) (by assumption) ?_
            rotate_left
            · intro w hSw
              try dsimp only at hSw
              try simp only [List.getElem_toArray, List.getElem_cons_succ, List.getElem_cons_zero]
              go_simp
              try with_reducible rfl
            try simp only [List.getElem_toArray, List.getElem_cons_succ, List.getElem_cons_zero, Act.put, List.setIfInBounds_toArray, List.set_cons_zero, List.set_cons_succ]
            refine wpAnyH_take (i := 13) (oi := _) (v := ?_) rfl (by kernel_rfl) (by kernel_rfl) (by kernel_rfl) (fun _ _ _ h => h) (Or.inl ⟨by rfl, ?_⟩) (by assumption) ?_
            rotate_left
            · intro w hSw
              try dsimp only at hSw
              try simp only [List.getElem_toArray, List.getElem_cons_succ, List.getElem_cons_zero]
              go_simp
              try with_reducible rfl
            try simp only [List.getElem_toArray, List.getElem_cons_succ, List.getElem_cons_zero, Act.put, List.setIfInBounds_toArray, List.set_cons_zero, List.set_cons_succ]
            refine wpAnyH_take (i := 14) (oi := _) (v := ?_) rfl (by kernel_rfl) (by kernel_rfl) (by kernel_rfl) (fun _ _ _ h => h) (Or.inl ⟨by rfl, ?_⟩) (by assumption) ?_
            rotate_left
            · intro w hSw
              try dsimp only at hSw
              try simp only [List.getElem_toArray, List.getElem_cons_succ, List.getElem_cons_zero]
              go_simp
              try with_reducible rfl
            try simp only [List.getElem_toArray, List.getElem_cons_succ, List.getElem_cons_zero, Act.put, List.setIfInBounds_toArray, List.set_cons_zero, List.set_cons_succ]
            refine wpAnyH_take (i := 15) (oi := _) (v := ?_) rfl (by kernel_rfl) (by kernel_rfl) (by kernel_rfl) (fun _ _ _ h => h) (Or.inl ⟨by rfl, ?_⟩) (by assumption) ?_
            rotate_left
            · intro w hSw
              try dsimp only at hSw
              try simp only [List.getElem_toArray, List.getElem_cons_succ, List.getElem_cons_zero]
              go_simp
              try with_reducible rfl
            try simp only [List.getElem_toArray, List.getElem_cons_succ, List.getElem_cons_zero, Act.put, List.setIfInBounds_toArray, List.set_cons_zero, List.set_cons_succ]
            refine wpAnyH_take (i := 16) (oi := _) (v := ?_) rfl (by kernel_rfl) (by kernel_rfl) (by kernel_rfl) (fun _ _ _ h => h) (Or.inl ⟨by rfl, ?_⟩) (by assumption) ?_
            rotate_left
            · intro w hSw
              try dsimp only at hSw
              try simp only [List.getElem_toArray, List.getElem_cons_succ, List.getElem_cons_zero]
              go_simp
              try with_reducible rfl
            try simp only [List.getElem_toArray, List.getElem_cons_succ, List.getElem_cons_zero, Act.put, List.setIfInBounds_toArray, List.set_cons_zero, List.set_cons_succ]
            refine wpAnyH_take (i := 17) (oi := _) (v := ?_) rfl (by kernel_rfl) (by kernel_rfl) (by kernel_rfl) (fun _ _ _ h => h) (Or.inl ⟨by rfl, ?_⟩) (by assumption) ?_
            rotate_left
            · intro w hSw
              try dsimp only at hSw
              try simp only [List.getElem_toArray, List.getElem_cons_succ, List.getElem_cons_zero]
              go_simp
              try with_reducible rfl
            try simp only [List.getElem_toArray, List.getElem_cons_succ, List.getElem_cons_zero, Act.put, List.setIfInBounds_toArray, List.set_cons_zero, List.set_cons_succ]
            refine wpAnyH_take (i := 18) (oi := _) (v := ?_) rfl (by kernel_rfl) (by kernel_rfl) (by kernel_rfl) (fun _ _ _ h => h) (Or.inl ⟨by rfl, ?_⟩) (by assumption) ?_
            rotate_left
            · intro w hSw
              try dsimp only at hSw
              try simp only [List.getElem_toArray, List.getElem_cons_succ, List.getElem_cons_zero]
              go_simp
              try with_reducible rfl
            try simp only [List.getElem_toArray, List.getElem_cons_succ, List.getElem_cons_zero, Act.put, List.setIfInBounds_toArray, List.set_cons_zero, List.set_cons_succ]
            refine wpAnyH_take (i := 19) (oi := _) (v := ?_) rfl (by kernel_rfl) (by kernel_rfl) (by kernel_rfl) (fun _ _ _ h => h) (Or.inl ⟨by rfl, ?_⟩) (by assumption) ?_
            rotate_left
            · intro w hSw
              try dsimp only at hSw
              try simp only [List.getElem_toArray, List.getElem_cons_succ, List.getElem_cons_zero]
              go_simp
              try with_reducible rfl
            try simp only [List.getElem_toArray, List.getElem_cons_succ, List.getElem_cons_zero, Act.put, List.setIfInBounds_toArray, List.set_cons_zero, List.set_cons_succ]
            refine wpAnyH_take (i := 20) (oi := _) (v := ?_) rfl (by kernel_rfl) (by kernel_rfl) (by kernel_rfl) (fun _ _ _ h => h) (Or.inl ⟨by rfl, ?_⟩) (by assumption) ?_
            rotate_left
            · intro w hSw
              try dsimp only at hSw
              try simp only [List.getElem_toArray, List.getElem_cons_succ, List.getElem_cons_zero]
              go_simp
              try with_reducible rfl
            try simp only [List.getElem_toArray, List.getElem_cons_succ, List.getElem_cons_zero, Act.put, List.setIfInBounds_toArray, List.set_cons_zero, List.set_cons_succ]
            refine wpAnyH_take (i := 21) (oi := _) (v := ?_) rfl (by kernel_rfl) (by kernel_rfl) (by kernel_rfl) (fun _ _ _ h => h) (Or.inl ⟨by rfl, ?_⟩) (by assumption) ?_
            rotate_left
            · intro w hSw
              try dsimp only at hSw
              try simp only [List.getElem_toArray, List.getElem_cons_succ, List.getElem_cons_zero]
              go_simp
              try with_reducible rfl
            try simp only [List.getElem_toArray, List.getElem_cons_succ, List.getElem_cons_zero, Act.put, List.setIfInBounds_toArray, List.set_cons_zero, List.set_cons_succ]
            refine wpAnyH_take (i := 22) (oi := _) (v := ?_) rfl (by kernel_rfl) (by kernel_rfl) (by kernel_rfl) (fun _ _ _ h => h) (Or.inl ⟨by rfl, ?_⟩) (by assumption) ?_
            rotate_left
            · intro w hSw
              try dsimp only at hSw
              try simp only [List.getElem_toArray, List.getElem_cons_succ, List.getElem_cons_zero]
              go_simp
              try with_reducible rfl
            try simp only [List.getElem_toArray, List.getElem_cons_succ, List.getElem_cons_zero, Act.put, List.setIfInBounds_toArray, List.set_cons_zero, List.set_cons_succ]
            refine wpAnyH_take (i := 25) (oi := _) (v := ?_) rfl (by kernel_rfl) (by kernel_rfl) (by kernel_rfl) (fun _ _ _ h => h) (Or.inl ⟨by rfl, ?_⟩) (by assumption) ?_
            rotate_left
            · intro w hSw
              try dsimp only at hSw
              try simp only [List.getElem_toArray, List.getElem_cons_succ, List.getElem_cons_zero]
              go_simp
              try with_reducible rfl
            try simp only [List.getElem_toArray, List.getElem_cons_succ, List.getElem_cons_zero, Act.put, List.setIfInBounds_toArray, List.set_cons_zero, List.set_cons_succ]
            refine wpAnyH_ready (rs := [23]) (by kernel_rfl) (by simp) ?_
            refine AllReadyH.cons (o := _) rfl (fun K hK => ?_) AllReadyH.nil
            try simp only [List.getElem_toArray, List.getElem_cons_succ, List.getElem_cons_zero]
            go_simp
            go_at_call 20
            refine (HPd.out _ HS9.out).mono ?_
            rintro e wa ⟨qa, ca, rfl, ga⟩
            have HSa := Lib.hid (HS9.out.grow ga)
            have hka := HCx.out _ HSa.out
            clear ga
            try (go_wp2_with fail)
            refine hK.out _ _ hka (fun hHeld => ?_)
            clear hK K
            try simp only [Act.put, List.setIfInBounds_toArray, List.set_cons_zero, List.set_cons_succ]
            refine wpAnyH_take (i := 24) (oi := _) (v := ?_) rfl (by kernel_rfl) (by kernel_rfl) (by kernel_rfl) (fun _ _ _ h => h) (Or.inl ⟨by rfl, ?_⟩) (by assumption) ?_
            rotate_left
            · intro w hSw
              try dsimp only at hSw
              try simp only [List.getElem_toArray, List.getElem_cons_succ, List.getElem_cons_zero]
              go_simp
              try with_reducible rfl
            try simp only [List.getElem_toArray, List.getElem_cons_succ, List.getElem_cons_zero, Act.put, List.setIfInBounds_toArray, List.set_cons_zero, List.set_cons_succ]
            refine wpAnyH_ready (rs := [26]) (by kernel_rfl) (by simp) ?_
            refine AllReadyH.cons (o := _) rfl (fun K hK => ?_) AllReadyH.nil
            try simp only [List.getElem_toArray, List.getElem_cons_succ, List.getElem_cons_zero]
            go_simp
            go_at_call 20
            refine (HPw.out _ HSa.out).mono ?_
            rintro e wb ⟨qb, cb, rfl, gb⟩
            have HSb := Lib.hid (HSa.out.grow gb)
            have hkb := HCx.out _ HSb.out
            clear gb
            try (go_wp2_with fail)
            refine hK.out _ _ hkb (fun hHeld => ?_)
            clear hK K
            try simp only [Act.put, List.setIfInBounds_toArray, List.set_cons_zero, List.set_cons_succ]
            refine wpAnyH_take (i := 27) (oi := _) (v := ?_) rfl (by kernel_rfl) (by kernel_rfl) (by kernel_rfl) (fun _ _ _ h => h) (Or.inl ⟨by rfl, ?_⟩) (by assumption) ?_
            rotate_left
            · intro w hSw
              try dsimp only at hSw
              try simp only [List.getElem_toArray, List.getElem_cons_succ, List.getElem_cons_zero]
              go_simp
              try with_reducible rfl
            try simp only [List.getElem_toArray, List.getElem_cons_succ, List.getElem_cons_zero, Act.put, List.setIfInBounds_toArray, List.set_cons_zero, List.set_cons_succ]
            refine wpAnyH_take (i := 28) (oi := _) (v := ?_) rfl (by kernel_rfl) (by kernel_rfl) (by kernel_rfl) (fun _ _ _ h => h) (Or.inl ⟨by rfl, ?_⟩) (by assumption) ?_
            rotate_left
            · intro w hSw
              try dsimp only at hSw
              try simp only [List.getElem_toArray, List.getElem_cons_succ, List.getElem_cons_zero]
              go_simp
              try with_reducible rfl
            try simp only [List.getElem_toArray, List.getElem_cons_succ, List.getElem_cons_zero, Act.put, List.setIfInBounds_toArray, List.set_cons_zero, List.set_cons_succ]
            refine wpAnyH_take (i := 29) (oi := _) (v := ?_) rfl (by kernel_rfl) (by kernel_rfl) (by kernel_rfl) (fun _ _ _ h => h) (Or.inl ⟨by rfl, ?_⟩) (by assumption) ?_
            rotate_left
            · intro w hSw
              try dsimp only at hSw
              try simp only [List.getElem_toArray, List.getElem_cons_succ, List.getElem_cons_zero]
              go_simp
              try with_reducible rfl
            try simp only [List.getElem_toArray, List.getElem_cons_succ, List.getElem_cons_zero, Act.put, List.setIfInBounds_toArray, List.set_cons_zero, List.set_cons_succ]
            refine wpAnyH_take (i := 30) (oi := _) (v := ?_) rfl (by kernel_rfl) (by kernel_rfl) (by kernel_rfl) (fun _ _ _ h => h) (Or.inl ⟨by rfl, ?_⟩) (by assumption) ?_
            rotate_left
            · intro w hSw
              try dsimp only at hSw
              try simp only [List.getElem_toArray, List.getElem_cons_succ, List.getElem_cons_zero]
              go_simp
              try with_reducible rfl
            try simp only [List.getElem_toArray, List.getElem_cons_succ, List.getElem_cons_zero, Act.put, List.setIfInBounds_toArray, List.set_cons_zero, List.set_cons_succ]
            refine wpAnyH_take (i := 31) (oi := _) (v := ?_) rfl (by kernel_rfl) (by kernel_rfl) (by kernel_rfl) (fun _ _ _ h => h) (Or.inl ⟨by rfl, ?_⟩) (by assumption) ?_
            rotate_left
            · intro w hSw
              try dsimp only at hSw
              try simp only [List.getElem_toArray, List.getElem_cons_succ, List.getElem_cons_zero]
              go_simp
              try with_reducible rfl
            try simp only [List.getElem_toArray, List.getElem_cons_succ, List.getElem_cons_zero, Act.put, List.setIfInBounds_toArray, List.set_cons_zero, List.set_cons_succ]
            refine wpAnyH_done (by kernel_rfl) ?_ _
            all_goals (
              have HSn := Lib.hid (show Sx w1 wb [(0, r, runF (newF [3, 2]) (A0.take (q + 1)))] [] by rw [HNx.out]; exact HSb.out.sub (by intro x hx; simp at hx ⊢; simp [hx]) (fun b hb => by cases hb))
              clear hk7 hkd hk8 hk9 HCx HEq HDd HSd
              go_wp2_with fail
              refine ⟨⟨q + 1, by omega, by go_num, HSn⟩, ?_⟩
              simp [intOf]
              omega)
          · have b4 : (o.k == 10) = false := by simpa using hk10
            clear hk10
            go_upto_region 14 with fail
            refine wp_region_held_drew (S := fun w7 => w7.cell? ⟨y8, 0, none⟩ = some (.int .i64 o.k) ∧ w7.cell? ⟨y8, 1, none⟩ = some (.int .i64 o.proc) ∧ w7.cell? ⟨y8, 2, none⟩ = some (.int .i64 o.addr) ∧ w7.cell? ⟨y8, 3, none⟩ = some (.int .i64 o.n) ∧ w7.cell? ⟨y8, 4, none⟩ = some (.int .i64 o.prot) ∧ w7.cell? ⟨y8, 5, none⟩ = some (.bool o.sh) ∧ w7.cell? ⟨y8, 6, none⟩ = some (.int .i64 o.file) ∧ w7.cell? ⟨y8, 7, none⟩ = some (.int .i64 o.off) ∧ w7.cell? ⟨y8, 8, none⟩ = some (.bool o.fixed) ∧ w7.cell? ⟨y8, 9, none⟩ = some (.int .i64 o.how) ∧ w7.cell? ⟨y8, 10, none⟩ = some (.int .i64 o.ati) ∧ w7.cell? ⟨y8, 11, none⟩ = some (.int .i64 o.v) ∧ w7.cell? ⟨y8, 12, none⟩ = some (.int .i64 o.hd) ∧ w7.cell? ⟨y8, 13, none⟩ = some (.int .i64 o.to) ∧ w7.cell? ⟨y10, 0, none⟩ = some (.int .i64 0) ∧ w7.cell? ⟨y10, 1, none⟩ = some (.int .i64 nr)) (by kernel_rfl) hkd (fun hHeld => ?_)
            refine wpAnyH_take (i := 0) (oi := _) (v := ?_) rfl (by kernel_rfl) (by kernel_rfl) (by kernel_rfl) (fun _ _ _ h => h) (Or.inl ⟨by rfl, ?_⟩) (by assumption) ?_
            rotate_left
            · intro w hSw
              try dsimp only at hSw
              try simp only [List.getElem_toArray, List.getElem_cons_succ, List.getElem_cons_zero]
              go_simp
              try with_reducible rfl
            try simp only [List.getElem_toArray, List.getElem_cons_succ, List.getElem_cons_zero, Act.put, List.setIfInBounds_toArray, List.set_cons_zero, List.set_cons_succ]
            refine wpAnyH_take (i := 1) (oi := _) (v := ?_) rfl (by kernel_rfl) (by kernel_rfl) (by kernel_rfl) (fun _ _ _ h => h) (Or.inl ⟨by rfl, ?_⟩) (by assumption) ?_
            rotate_left
            · intro w hSw
              try dsimp only at hSw
              try simp only [List.getElem_toArray, List.getElem_cons_succ, List.getElem_cons_zero]
              go_simp
              try with_reducible rfl
            try simp only [List.getElem_toArray, List.getElem_cons_succ, List.getElem_cons_zero, Act.put, List.setIfInBounds_toArray, List.set_cons_zero, List.set_cons_succ]
            refine wpAnyH_take (i := 3) (oi := _) (v := ?_) rfl (by kernel_rfl) (by kernel_rfl) (by kernel_rfl) (fun _ _ _ h => h) (Or.inl ⟨by rfl, ?_⟩) (by assumption) ?_
            rotate_left
            · intro w hSw
              try dsimp only at hSw
              try simp only [List.getElem_toArray, List.getElem_cons_succ, List.getElem_cons_zero]
              go_simp
              try with_reducible rfl
            try simp only [List.getElem_toArray, List.getElem_cons_succ, List.getElem_cons_zero, Act.put, List.setIfInBounds_toArray, List.set_cons_zero, List.set_cons_succ]
            refine wpAnyH_ready (rs := [2]) (by kernel_rfl) (by simp) ?_
            refine AllReadyH.cons (o := _) rfl (fun K hK => ?_) AllReadyH.nil
            try simp only [List.getElem_toArray, List.getElem_cons_succ, List.getElem_cons_zero]
            go_simp
            go_at_call 15
            refine HDd.out.mono ?_
            rintro e w8 ⟨rfl, hs8⟩
            have HS8 := Lib.hid hs8
            have hk8 := HCx.out _ hs8
            clear hs8
            try (go_wp2_with fail)
            refine hK.out _ _ hk8 (fun hHeld => ?_)
            clear hK K
            try simp only [Act.put, List.setIfInBounds_toArray, List.set_cons_zero, List.set_cons_succ]
            refine wpAnyH_take (i := 4) (oi := _) (v := ?_) rfl (by kernel_rfl) (by kernel_rfl) (by kernel_rfl) (fun _ _ _ h => h) (Or.inl ⟨by rfl, ?_⟩) (by assumption) ?_
            rotate_left
            · intro w hSw
              try dsimp only at hSw
              try simp only [List.getElem_toArray, List.getElem_cons_succ, List.getElem_cons_zero]
              go_simp
              try with_reducible rfl
            try simp only [List.getElem_toArray, List.getElem_cons_succ, List.getElem_cons_zero, Act.put, List.setIfInBounds_toArray, List.set_cons_zero, List.set_cons_succ]
            refine wpAnyH_take (i := 5) (oi := _) (v := ?_) rfl (by kernel_rfl) (by kernel_rfl) (by kernel_rfl) (fun _ _ _ h => h) (Or.inl ⟨by rfl, ?_⟩) (by assumption) ?_
            rotate_left
            · intro w hSw
              try dsimp only at hSw
              try simp only [List.getElem_toArray, List.getElem_cons_succ, List.getElem_cons_zero]
              go_simp
              try with_reducible rfl
            try simp only [List.getElem_toArray, List.getElem_cons_succ, List.getElem_cons_zero, Act.put, List.setIfInBounds_toArray, List.set_cons_zero, List.set_cons_succ]
            refine wpAnyH_take (i := 6) (oi := _) (v := ?_) rfl (by kernel_rfl) (by kernel_rfl) (by kernel_rfl) (fun _ _ _ h => h) (Or.inl ⟨by rfl, ?_⟩) (by assumption) ?_
            rotate_left
            · intro w hSw
              try dsimp only at hSw
              try simp only [List.getElem_toArray, List.getElem_cons_succ, List.getElem_cons_zero]
              go_simp
              try with_reducible rfl
            try simp only [List.getElem_toArray, List.getElem_cons_succ, List.getElem_cons_zero, Act.put, List.setIfInBounds_toArray, List.set_cons_zero, List.set_cons_succ]
            refine wpAnyH_take (i := 7) (oi := _) (v := ?_) rfl (by kernel_rfl) (by kernel_rfl) (by kernel_rfl) (fun _ _ _ h => h) (Or.inl ⟨by rfl, ?_⟩) (by assumption) ?_
            rotate_left
            · intro w hSw
              try dsimp only at hSw
              try simp only [List.getElem_toArray, List.getElem_cons_succ, List.getElem_cons_zero]
              go_simp
              try with_reducible rfl
            try simp only [List.getElem_toArray, List.getElem_cons_succ, List.getElem_cons_zero, Act.put, List.setIfInBounds_toArray, List.set_cons_zero, List.set_cons_succ]
            refine wpAnyH_take (i := 8) (oi := _) (v := ?_) rfl (by kernel_rfl) (by kernel_rfl) (by kernel_rfl) (fun _ _ _ h => h) (Or.inl ⟨by rfl, ?_⟩) (by assumption) ?_
            rotate_left
            · intro w hSw
              try dsimp only at hSw
              try simp only [List.getElem_toArray, List.getElem_cons_succ, List.getElem_cons_zero]
              go_simp
              try with_reducible rfl
            try simp only [List.getElem_toArray, List.getElem_cons_succ, List.getElem_cons_zero, Act.put, List.setIfInBounds_toArray, List.set_cons_zero, List.set_cons_succ]
            refine wpAnyH_ready (rs := [9]) (by kernel_rfl) (by simp) ?_
            refine AllReadyH.cons (o := _) rfl (fun K hK => ?_) AllReadyH.nil
            try simp only [List.getElem_toArray, List.getElem_cons_succ, List.getElem_cons_zero]
            go_simp
            go_at_call 19
            refine (HEq.out _ HS8.out).mono ?_
            rintro e w9 ⟨rfl, g9⟩
            have HS9 := Lib.hid (HS8.out.grow g9)
            have hk9 := HCx.out _ HS9.out
            clear g9
            try (go_wp2_with fail)
            refine hK.out _ _ hk9 (fun hHeld => ?_)
            clear hK K
            try simp only [Act.put, List.setIfInBounds_toArray, List.set_cons_zero, List.set_cons_succ]
            refine wpAnyH_take (i := 10) (oi := _) (v := ?_) rfl (by kernel_rfl) (by kernel_rfl) (by kernel_rfl) (fun _ _ _ h => h) (Or.inl ⟨by rfl, ?_⟩) (by assumption) ?_
            rotate_left
            · intro w hSw
              try dsimp only at hSw
              try simp only [List.getElem_toArray, List.getElem_cons_succ, List.getElem_cons_zero]
              go_simp
              try with_reducible rfl
            try simp only [List.getElem_toArray, List.getElem_cons_succ, List.getElem_cons_zero, Act.put, List.setIfInBounds_toArray, List.set_cons_zero, List.set_cons_succ]
            refine wpAnyH_take (i := 11) (oi := _) (v := ?_) rfl (by kernel_rfl) (by kernel_rfl) (by kernel_rfl) (fun _ _ _ h => h) (Or.inl ⟨by rfl, ?_⟩) (by assumption) ?_
            rotate_left
            · intro w hSw
              try dsimp only at hSw
              try simp only [List.getElem_toArray, List.getElem_cons_succ, List.getElem_cons_zero]
              go_simp
              try with_reducible rfl
            try simp only [List.getElem_toArray, List.getElem_cons_succ, List.getElem_cons_zero, Act.put, List.setIfInBounds_toArray, List.set_cons_zero, List.set_cons_succ]
            refine wpAnyH_take (i := 12) (oi := _) (v := ?_) rfl (by kernel_rfl) (by kernel_rfl) (by kernel_rfl) (fun _ _ _ h => h) (Or.inl ⟨by rfl, ?_⟩) (by assumption) ?_
            rotate_left
            · intro w hSw
              try dsimp only at hSw
              try simp only [List.getElem_toArray, List.getElem_cons_succ, List.getElem_cons_zero]
              go_simp
              try with_reducible rfl
            try simp only [List.getElem_toArray, List.getElem_cons_succ, List.getElem_cons_zero, Act.put, List.setIfInBounds_toArray, List.set_cons_zero, List.set_cons_succ]
            refine wpAnyH_take (i := 13) (oi := _) (v := ?_) rfl (by kernel_rfl) (by kernel_rfl) (by kernel_rfl) (fun _ _ _ h => h) (Or.inl ⟨by rfl, ?_⟩) (by assumption) ?_
            rotate_left
            · intro w hSw
              try dsimp only at hSw
              try simp only [List.getElem_toArray, List.getElem_cons_succ, List.getElem_cons_zero]
              go_simp
              try with_reducible rfl
            try simp only [List.getElem_toArray, List.getElem_cons_succ, List.getElem_cons_zero, Act.put, List.setIfInBounds_toArray, List.set_cons_zero, List.set_cons_succ]
            refine wpAnyH_take (i := 14) (oi := _) (v := ?_) rfl (by kernel_rfl) (by kernel_rfl) (by kernel_rfl) (fun _ _ _ h => h) (Or.inl ⟨by rfl, ?_⟩) (by assumption) ?_
            rotate_left
            · intro w hSw
              try dsimp only at hSw
              try simp only [List.getElem_toArray, List.getElem_cons_succ, List.getElem_cons_zero]
              go_simp
              try with_reducible rfl
            try simp only [List.getElem_toArray, List.getElem_cons_succ, List.getElem_cons_zero, Act.put, List.setIfInBounds_toArray, List.set_cons_zero, List.set_cons_succ]
            refine wpAnyH_take (i := 15) (oi := _) (v := ?_) rfl (by kernel_rfl) (by kernel_rfl) (by kernel_rfl) (fun _ _ _ h => h) (Or.inl ⟨by rfl, ?_⟩) (by assumption) ?_
            rotate_left
            · intro w hSw
              try dsimp only at hSw
              try simp only [List.getElem_toArray, List.getElem_cons_succ, List.getElem_cons_zero]
              go_simp
              try with_reducible rfl
            try simp only [List.getElem_toArray, List.getElem_cons_succ, List.getElem_cons_zero, Act.put, List.setIfInBounds_toArray, List.set_cons_zero, List.set_cons_succ]
            refine wpAnyH_take (i := 16) (oi := _) (v := ?_) rfl (by kernel_rfl) (by kernel_rfl) (by kernel_rfl) (fun _ _ _ h => h) (Or.inl ⟨by rfl, ?_⟩) (by assumption) ?_
            rotate_left
            · intro w hSw
              try dsimp only at hSw
              try simp only [List.getElem_toArray, List.getElem_cons_succ, List.getElem_cons_zero]
              go_simp
              try with_reducible rfl
            try simp only [List.getElem_toArray, List.getElem_cons_succ, List.getElem_cons_zero, Act.put, List.setIfInBounds_toArray, List.set_cons_zero, List.set_cons_succ]
            refine wpAnyH_take (i := 17) (oi := _) (v := ?_) rfl (by kernel_rfl) (by kernel_rfl) (by kernel_rfl) (fun _ _ _ h => h) (Or.inl ⟨by rfl, ?_⟩) (by assumption) ?_
            rotate_left
            · intro w hSw
              try dsimp only at hSw
              try simp only [List.getElem_toArray, List.getElem_cons_succ, List.getElem_cons_zero]
              go_simp
              try with_reducible rfl
            try simp only [List.getElem_toArray, List.getElem_cons_succ, List.getElem_cons_zero, Act.put, List.setIfInBounds_toArray, List.set_cons_zero, List.set_cons_succ]
            refine wpAnyH_take (i := 18) (oi := _) (v := ?_) rfl (by kernel_rfl) (by kernel_rfl) (by kernel_rfl) (fun _ _ _ h => h) (Or.inl ⟨by rfl, ?_⟩) (by assumption) ?_
            rotate_left
            · intro w hSw
              try dsimp only at hSw
              try simp only [List.getElem_toArray, List.getElem_cons_succ, List.getElem_cons_zero]
              go_simp
              try with_reducible rfl
            try simp only [List.getElem_toArray, List.getElem_cons_succ, List.getElem_cons_zero, Act.put, List.setIfInBounds_toArray, List.set_cons_zero, List.set_cons_succ]
            refine wpAnyH_take (i := 19) (oi := _) (v := ?_) rfl (by kernel_rfl) (by kernel_rfl) (by kernel_rfl) (fun _ _ _ h => h) (Or.inl ⟨by rfl, ?_⟩) (by assumption) ?_
            rotate_left
            · intro w hSw
              try dsimp only at hSw
              try simp only [List.getElem_toArray, List.getElem_cons_succ, List.getElem_cons_zero]
              go_simp
              try with_reducible rfl
            try simp only [List.getElem_toArray, List.getElem_cons_succ, List.getElem_cons_zero, Act.put, List.setIfInBounds_toArray, List.set_cons_zero, List.set_cons_succ]
            refine wpAnyH_take (i := 20) (oi := _) (v := ?_) rfl (by kernel_rfl) (by kernel_rfl) (by kernel_rfl) (fun _ _ _ h => h) (Or.inl ⟨by rfl, ?_⟩) (by assumption) ?_
            rotate_left
            · intro w hSw
              try dsimp only at hSw
              try simp only [List.getElem_toArray, List.getElem_cons_succ, List.getElem_cons_zero]
              go_simp
              try with_reducible rfl
            try simp only [List.getElem_toArray, List.getElem_cons_succ, List.getElem_cons_zero, Act.put, List.setIfInBounds_toArray, List.set_cons_zero, List.set_cons_succ]
            refine wpAnyH_take (i := 21) (oi := _) (v := ?_) rfl (by kernel_rfl) (by kernel_rfl) (by kernel_rfl) (fun _ _ _ h => h) (Or.inl ⟨by rfl, ?_⟩) (by assumption) ?_
            rotate_left
            · intro w hSw
              try dsimp only at hSw
              try simp only [List.getElem_toArray, List.getElem_cons_succ, List.getElem_cons_zero]
              go_simp
              try with_reducible rfl
            try simp only [List.getElem_toArray, List.getElem_cons_succ, List.getElem_cons_zero, Act.put, List.setIfInBounds_toArray, List.set_cons_zero, List.set_cons_succ]
            refine wpAnyH_take (i := 22) (oi := _) (v := undef) rfl (by kernel_rfl) (by kernel_rfl) (by kernel_rfl) (fun _ _ _ h => h) (Or.inr ⟨by rfl, rfl⟩) (by assumption) ?_
            try simp only [List.getElem_toArray, List.getElem_cons_succ, List.getElem_cons_zero, Act.put, List.setIfInBounds_toArray, List.set_cons_zero, List.set_cons_succ]
            refine wpAnyH_take (i := 23) (oi := _) (v := undef) rfl (by kernel_rfl) (by kernel_rfl) (by kernel_rfl) (fun _ _ _ h => h) (Or.inr ⟨by rfl, rfl⟩) (by assumption) ?_
            try simp only [List.getElem_toArray, List.getElem_cons_succ, List.getElem_cons_zero, Act.put, List.setIfInBounds_toArray, List.set_cons_zero, List.set_cons_succ]
            refine wpAnyH_take (i := 24) (oi := _) (v := undef) rfl (by kernel_rfl) (by kernel_rfl) (by kernel_rfl) (fun _ _ _ h => h) (Or.inr ⟨by rfl, rfl⟩) (by assumption) ?_
            try simp only [List.getElem_toArray, List.getElem_cons_succ, List.getElem_cons_zero, Act.put, List.setIfInBounds_toArray, List.set_cons_zero, List.set_cons_succ]
            refine wpAnyH_take (i := 25) (oi := _) (v := undef) rfl (by kernel_rfl) (by kernel_rfl) (by kernel_rfl) (fun _ _ _ h => h) (Or.inr ⟨by rfl, rfl⟩) (by assumption) ?_
            try simp only [List.getElem_toArray, List.getElem_cons_succ, List.getElem_cons_zero, Act.put, List.setIfInBounds_toArray, List.set_cons_zero, List.set_cons_succ]
            refine wpAnyH_take (i := 26) (oi := _) (v := undef) rfl (by kernel_rfl) (by kernel_rfl) (by kernel_rfl) (fun _ _ _ h => h) (Or.inr ⟨by rfl, rfl⟩) (by assumption) ?_
            try simp only [List.getElem_toArray, List.getElem_cons_succ, List.getElem_cons_zero, Act.put, List.setIfInBounds_toArray, List.set_cons_zero, List.set_cons_succ]
            refine wpAnyH_take (i := 27) (oi := _) (v := undef) rfl (by kernel_rfl) (by kernel_rfl) (by kernel_rfl) (fun _ _ _ h => h) (Or.inr ⟨by rfl, rfl⟩) (by assumption) ?_
            try simp only [List.getElem_toArray, List.getElem_cons_succ, List.getElem_cons_zero, Act.put, List.setIfInBounds_toArray, List.set_cons_zero, List.set_cons_succ]
            refine wpAnyH_take (i := 28) (oi := _) (v := undef) rfl (by kernel_rfl) (by kernel_rfl) (by kernel_rfl) (fun _ _ _ h => h) (Or.inr ⟨by rfl, rfl⟩) (by assumption) ?_
            try simp only [List.getElem_toArray, List.getElem_cons_succ, List.getElem_cons_zero, Act.put, List.setIfInBounds_toArray, List.set_cons_zero, List.set_cons_succ]
            refine wpAnyH_take (i := 29) (oi := _) (v := undef) rfl (by kernel_rfl) (by kernel_rfl) (by kernel_rfl) (fun _ _ _ h => h) (Or.inr ⟨by rfl, rfl⟩) (by assumption) ?_
            try simp only [List.getElem_toArray, List.getElem_cons_succ, List.getElem_cons_zero, Act.put, List.setIfInBounds_toArray, List.set_cons_zero, List.set_cons_succ]
            refine wpAnyH_take (i := 30) (oi := _) (v := ?_) rfl (by kernel_rfl) (by kernel_rfl) (by kernel_rfl) (fun _ _ _ h => h) (Or.inl ⟨by rfl, ?_⟩) (by assumption) ?_
            rotate_left
            · intro w hSw
              try dsimp only at hSw
              try simp only [List.getElem_toArray, List.getElem_cons_succ, List.getElem_cons_zero]
              go_simp
              try with_reducible rfl
            try simp only [List.getElem_toArray, List.getElem_cons_succ, List.getElem_cons_zero, Act.put, List.setIfInBounds_toArray, List.set_cons_zero, List.set_cons_succ]
            refine wpAnyH_take (i := 31) (oi := _) (v := ?_) rfl (by kernel_rfl) (by kernel_rfl) (by kernel_rfl) (fun _ _ _ h => h) (Or.inl ⟨by rfl, ?_⟩) (by assumption) ?_
            rotate_left
            · intro w hSw
              try dsimp only at hSw
              try simp only [List.getElem_toArray, List.getElem_cons_succ, List.getElem_cons_zero]
              go_simp
              try with_reducible rfl
            try simp only [List.getElem_toArray, List.getElem_cons_succ, List.getElem_cons_zero, Act.put, List.setIfInBounds_toArray, List.set_cons_zero, List.set_cons_succ]
            refine wpAnyH_done (by kernel_rfl) ?_ _
            all_goals (
              have HSn := Lib.hid (show Sx w1 w9 [(0, r, runF (newF [3, 2]) (A0.take (q + 1)))] [] by rw [HNx.out]; exact HS9.out.sub (by intro x hx; simp at hx ⊢; simp [hx]) (fun b hb => by cases hb))
              clear hk7 hkd hk8 hk9 HCx HEq HDd HSd
              go_wp2_with fail
              refine ⟨⟨q + 1, by omega, by go_num, HSn⟩, ?_⟩
              simp [intOf]
              omega)
        · have b2 : (er != 0) = true := by simpa using he
          obtain ⟨hSS, hnr⟩ := HEr.out he
          have hSS := hSS.symm
          subst hSS
          have b3 : (nr != 0) = false := by rw [hnr]; rfl
          have HQ := Lib.hid (HS5.out.equal_ok (t := 0) (t2 := 1) (r := r) (r2 := r1) (by simp) (by simp) (HSI.out.ok (by omega) (by omega)) (P := P) (c := c2) (IntRows.grow17 HA2.out (grown_trans HG1.out HS5.out.grown)) (by omega))
          have hnrH := Lib.hid hnr
          clear hnr
          go_wp2_with fail
          refine HQ.out.mono ?_
          rintro e w6 ⟨rfl, g6⟩
          have hnr := hnrH.out
          subst hnr
          clear hnrH b3
          have HS6 := Lib.hid (HS5.out.grow g6)
          clear g6 HQ HS5 e0 e1
          go_wp2_with fail
          refine (HTl.out _ HS6.out).mono ?_
          rintro e w7 ⟨r2, rfl, hs7⟩
          have HS7 := Lib.hid (show Sx w1 w7 [(0, r, S), (2, r2, S), (1, r1, S)] [(y10, .cells #[.int .i64 er, .int .i64 0] 36 (0, 0)), (y8, .cells #[.int .i64 o.k, .int .i64 o.proc, .int .i64 o.addr, .int .i64 o.n, .int .i64 o.prot, .bool o.sh, .int .i64 o.file, .int .i64 o.off, .bool o.fixed, .int .i64 o.how, .int .i64 o.ati, .int .i64 o.v, .int .i64 o.hd, .int .i64 o.to] 34 (0, 0))] from hs7.sub (by intro x hx; simp at hx ⊢; rcases hx with h | h | h <;> simp [h]) (fun _ h => h))
          have HSd := Lib.hid (HS7.out.grow (grown_drew1 w7))
          have hk7 := box_cells HS7.out
          have hkd := box_cells HSd.out
          have HDd := Lib.hid (HSd.out.do_ok (by intro x hx; simp at hx; rcases hx with h | h <;> subst h <;> simp) HSI.out (by omega) (by omega) (by omega) o HOo.out HOl.out)
          rw [HAE.out.1, HAE.out.2.1, HAE.out.2.2] at HDd
          have HCx := Lib.hid (fun (wx : World) (s : Sx w1 wx [(0, r, S), (2, r2, S), (1, r1, S)] [(y10, .cells #[.int .i64 er, .int .i64 0] 36 (0, 0)), (y8, .cells #[.int .i64 o.k, .int .i64 o.proc, .int .i64 o.addr, .int .i64 o.n, .int .i64 o.prot, .bool o.sh, .int .i64 o.file, .int .i64 o.off, .bool o.fixed, .int .i64 o.how, .int .i64 o.ati, .int .i64 o.v, .int .i64 o.hd, .int .i64 o.to] 34 (0, 0))]) => box_cells s)
          have HEq := Lib.hid (fun (wx : World) (s : Sx w1 wx [(0, r, S), (2, r2, S), (1, r1, S)] [(y10, .cells #[.int .i64 er, .int .i64 0] 36 (0, 0)), (y8, .cells #[.int .i64 o.k, .int .i64 o.proc, .int .i64 o.addr, .int .i64 o.n, .int .i64 o.prot, .bool o.sh, .int .i64 o.file, .int .i64 o.off, .bool o.fixed, .int .i64 o.how, .int .i64 o.ati, .int .i64 o.v, .int .i64 o.hd, .int .i64 o.to] 34 (0, 0))]) => s.equal_ok (t := 0) (t2 := 1) (r := r) (r2 := r1) (by simp) (by simp) (HSI2.out.ok (by omega) (by omega)) (P := P) (c := c2) (IntRows.grow17 HA2.out (grown_trans HG1.out s.grown)) (by omega))
          clear hs7 HTl HS7
          have b4 : (er == 0) = false := by simpa using he
          go_upto_region 14 with fail
          refine wp_region_held_drew (S := fun w7 => w7.cell? ⟨y8, 0, none⟩ = some (.int .i64 o.k) ∧ w7.cell? ⟨y8, 1, none⟩ = some (.int .i64 o.proc) ∧ w7.cell? ⟨y8, 2, none⟩ = some (.int .i64 o.addr) ∧ w7.cell? ⟨y8, 3, none⟩ = some (.int .i64 o.n) ∧ w7.cell? ⟨y8, 4, none⟩ = some (.int .i64 o.prot) ∧ w7.cell? ⟨y8, 5, none⟩ = some (.bool o.sh) ∧ w7.cell? ⟨y8, 6, none⟩ = some (.int .i64 o.file) ∧ w7.cell? ⟨y8, 7, none⟩ = some (.int .i64 o.off) ∧ w7.cell? ⟨y8, 8, none⟩ = some (.bool o.fixed) ∧ w7.cell? ⟨y8, 9, none⟩ = some (.int .i64 o.how) ∧ w7.cell? ⟨y8, 10, none⟩ = some (.int .i64 o.ati) ∧ w7.cell? ⟨y8, 11, none⟩ = some (.int .i64 o.v) ∧ w7.cell? ⟨y8, 12, none⟩ = some (.int .i64 o.hd) ∧ w7.cell? ⟨y8, 13, none⟩ = some (.int .i64 o.to) ∧ w7.cell? ⟨y10, 0, none⟩ = some (.int .i64 er) ∧ w7.cell? ⟨y10, 1, none⟩ = some (.int .i64 0)) (by kernel_rfl) hkd (fun hHeld => ?_)
          refine wpAnyH_take (i := 0) (oi := _) (v := ?_) rfl (by kernel_rfl) (by kernel_rfl) (by kernel_rfl) (fun _ _ _ h => h) (Or.inl ⟨by rfl, ?_⟩) (by assumption) ?_
          rotate_left
          · intro w hSw
            try dsimp only at hSw
            try simp only [List.getElem_toArray, List.getElem_cons_succ, List.getElem_cons_zero]
            go_simp
            try with_reducible rfl
          try simp only [List.getElem_toArray, List.getElem_cons_succ, List.getElem_cons_zero, Act.put, List.setIfInBounds_toArray, List.set_cons_zero, List.set_cons_succ]
          refine wpAnyH_take (i := 1) (oi := _) (v := ?_) rfl (by kernel_rfl) (by kernel_rfl) (by kernel_rfl) (fun _ _ _ h => h) (Or.inl ⟨by rfl, ?_⟩) (by assumption) ?_
          rotate_left
          · intro w hSw
            try dsimp only at hSw
            try simp only [List.getElem_toArray, List.getElem_cons_succ, List.getElem_cons_zero]
            go_simp
            try with_reducible rfl
          try simp only [List.getElem_toArray, List.getElem_cons_succ, List.getElem_cons_zero, Act.put, List.setIfInBounds_toArray, List.set_cons_zero, List.set_cons_succ]
          refine wpAnyH_take (i := 3) (oi := _) (v := ?_) rfl (by kernel_rfl) (by kernel_rfl) (by kernel_rfl) (fun _ _ _ h => h) (Or.inl ⟨by rfl, ?_⟩) (by assumption) ?_
          rotate_left
          · intro w hSw
            try dsimp only at hSw
            try simp only [List.getElem_toArray, List.getElem_cons_succ, List.getElem_cons_zero]
            go_simp
            try with_reducible rfl
          try simp only [List.getElem_toArray, List.getElem_cons_succ, List.getElem_cons_zero, Act.put, List.setIfInBounds_toArray, List.set_cons_zero, List.set_cons_succ]
          refine wpAnyH_ready (rs := [2]) (by kernel_rfl) (by simp) ?_
          refine AllReadyH.cons (o := _) rfl (fun K hK => ?_) AllReadyH.nil
          try simp only [List.getElem_toArray, List.getElem_cons_succ, List.getElem_cons_zero]
          go_simp
          go_at_call 15
          refine HDd.out.mono ?_
          rintro e w8 ⟨rfl, hs8⟩
          have HS8 := Lib.hid hs8
          have hk8 := HCx.out _ hs8
          clear hs8
          try (go_wp2_with fail)
          refine hK.out _ _ hk8 (fun hHeld => ?_)
          clear hK K
          try simp only [Act.put, List.setIfInBounds_toArray, List.set_cons_zero, List.set_cons_succ]
          refine wpAnyH_take (i := 4) (oi := _) (v := ?_) rfl (by kernel_rfl) (by kernel_rfl) (by kernel_rfl) (fun _ _ _ h => h) (Or.inl ⟨by rfl, ?_⟩) (by assumption) ?_
          rotate_left
          · intro w hSw
            try dsimp only at hSw
            try simp only [List.getElem_toArray, List.getElem_cons_succ, List.getElem_cons_zero]
            go_simp
            try with_reducible rfl
          try simp only [List.getElem_toArray, List.getElem_cons_succ, List.getElem_cons_zero, Act.put, List.setIfInBounds_toArray, List.set_cons_zero, List.set_cons_succ]
          refine wpAnyH_take (i := 5) (oi := _) (v := ?_) rfl (by kernel_rfl) (by kernel_rfl) (by kernel_rfl) (fun _ _ _ h => h) (Or.inl ⟨by rfl, ?_⟩) (by assumption) ?_
          rotate_left
          · intro w hSw
            try dsimp only at hSw
            try simp only [List.getElem_toArray, List.getElem_cons_succ, List.getElem_cons_zero]
            go_simp
            try with_reducible rfl
          try simp only [List.getElem_toArray, List.getElem_cons_succ, List.getElem_cons_zero, Act.put, List.setIfInBounds_toArray, List.set_cons_zero, List.set_cons_succ]
          refine wpAnyH_take (i := 6) (oi := _) (v := ?_) rfl (by kernel_rfl) (by kernel_rfl) (by kernel_rfl) (fun _ _ _ h => h) (Or.inl ⟨by rfl, ?_⟩) (by assumption) ?_
          rotate_left
          · intro w hSw
            try dsimp only at hSw
            try simp only [List.getElem_toArray, List.getElem_cons_succ, List.getElem_cons_zero]
            go_simp
            try with_reducible rfl
          try simp only [List.getElem_toArray, List.getElem_cons_succ, List.getElem_cons_zero, Act.put, List.setIfInBounds_toArray, List.set_cons_zero, List.set_cons_succ]
          refine wpAnyH_take (i := 7) (oi := _) (v := ?_) rfl (by kernel_rfl) (by kernel_rfl) (by kernel_rfl) (fun _ _ _ h => h) (Or.inl ⟨by rfl, ?_⟩) (by assumption) ?_
          rotate_left
          · intro w hSw
            try dsimp only at hSw
            try simp only [List.getElem_toArray, List.getElem_cons_succ, List.getElem_cons_zero]
            go_simp
            try with_reducible rfl
          try simp only [List.getElem_toArray, List.getElem_cons_succ, List.getElem_cons_zero, Act.put, List.setIfInBounds_toArray, List.set_cons_zero, List.set_cons_succ]
          refine wpAnyH_take (i := 8) (oi := _) (v := ?_) rfl (by kernel_rfl) (by kernel_rfl) (by kernel_rfl) (fun _ _ _ h => h) (Or.inl ⟨by rfl, ?_⟩) (by assumption) ?_
          rotate_left
          · intro w hSw
            try dsimp only at hSw
            try simp only [List.getElem_toArray, List.getElem_cons_succ, List.getElem_cons_zero]
            go_simp
            try with_reducible rfl
          try simp only [List.getElem_toArray, List.getElem_cons_succ, List.getElem_cons_zero, Act.put, List.setIfInBounds_toArray, List.set_cons_zero, List.set_cons_succ]
          refine wpAnyH_ready (rs := [9]) (by kernel_rfl) (by simp) ?_
          refine AllReadyH.cons (o := _) rfl (fun K hK => ?_) AllReadyH.nil
          try simp only [List.getElem_toArray, List.getElem_cons_succ, List.getElem_cons_zero]
          go_simp
          go_at_call 19
          refine (HEq.out _ HS8.out).mono ?_
          rintro e w9 ⟨rfl, g9⟩
          have HS9 := Lib.hid (HS8.out.grow g9)
          have hk9 := HCx.out _ HS9.out
          clear g9
          try (go_wp2_with fail)
          refine hK.out _ _ hk9 (fun hHeld => ?_)
          clear hK K
          try simp only [Act.put, List.setIfInBounds_toArray, List.set_cons_zero, List.set_cons_succ]
          refine wpAnyH_take (i := 10) (oi := _) (v := ?_) rfl (by kernel_rfl) (by kernel_rfl) (by kernel_rfl) (fun _ _ _ h => h) (Or.inl ⟨by rfl, ?_⟩) (by assumption) ?_
          rotate_left
          · intro w hSw
            try dsimp only at hSw
            try simp only [List.getElem_toArray, List.getElem_cons_succ, List.getElem_cons_zero]
            go_simp
            try with_reducible rfl
          try simp only [List.getElem_toArray, List.getElem_cons_succ, List.getElem_cons_zero, Act.put, List.setIfInBounds_toArray, List.set_cons_zero, List.set_cons_succ]
          refine wpAnyH_take (i := 11) (oi := _) (v := ?_) rfl (by kernel_rfl) (by kernel_rfl) (by kernel_rfl) (fun _ _ _ h => h) (Or.inl ⟨by rfl, ?_⟩) (by assumption) ?_
          rotate_left
          · intro w hSw
            try dsimp only at hSw
            try simp only [List.getElem_toArray, List.getElem_cons_succ, List.getElem_cons_zero]
            go_simp
            try with_reducible rfl
          try simp only [List.getElem_toArray, List.getElem_cons_succ, List.getElem_cons_zero, Act.put, List.setIfInBounds_toArray, List.set_cons_zero, List.set_cons_succ]
          refine wpAnyH_take (i := 12) (oi := _) (v := ?_) rfl (by kernel_rfl) (by kernel_rfl) (by kernel_rfl) (fun _ _ _ h => h) (Or.inl ⟨by rfl, ?_⟩) (by assumption) ?_
          rotate_left
          · intro w hSw
            try dsimp only at hSw
            try simp only [List.getElem_toArray, List.getElem_cons_succ, List.getElem_cons_zero]
            go_simp
            try with_reducible rfl
          try simp only [List.getElem_toArray, List.getElem_cons_succ, List.getElem_cons_zero, Act.put, List.setIfInBounds_toArray, List.set_cons_zero, List.set_cons_succ]
          refine wpAnyH_take (i := 13) (oi := _) (v := ?_) rfl (by kernel_rfl) (by kernel_rfl) (by kernel_rfl) (fun _ _ _ h => h) (Or.inl ⟨by rfl, ?_⟩) (by assumption) ?_
          rotate_left
          · intro w hSw
            try dsimp only at hSw
            try simp only [List.getElem_toArray, List.getElem_cons_succ, List.getElem_cons_zero]
            go_simp
            try with_reducible rfl
          try simp only [List.getElem_toArray, List.getElem_cons_succ, List.getElem_cons_zero, Act.put, List.setIfInBounds_toArray, List.set_cons_zero, List.set_cons_succ]
          refine wpAnyH_take (i := 14) (oi := _) (v := ?_) rfl (by kernel_rfl) (by kernel_rfl) (by kernel_rfl) (fun _ _ _ h => h) (Or.inl ⟨by rfl, ?_⟩) (by assumption) ?_
          rotate_left
          · intro w hSw
            try dsimp only at hSw
            try simp only [List.getElem_toArray, List.getElem_cons_succ, List.getElem_cons_zero]
            go_simp
            try with_reducible rfl
          try simp only [List.getElem_toArray, List.getElem_cons_succ, List.getElem_cons_zero, Act.put, List.setIfInBounds_toArray, List.set_cons_zero, List.set_cons_succ]
          refine wpAnyH_take (i := 15) (oi := _) (v := ?_) rfl (by kernel_rfl) (by kernel_rfl) (by kernel_rfl) (fun _ _ _ h => h) (Or.inl ⟨by rfl, ?_⟩) (by assumption) ?_
          rotate_left
          · intro w hSw
            try dsimp only at hSw
            try simp only [List.getElem_toArray, List.getElem_cons_succ, List.getElem_cons_zero]
            go_simp
            try with_reducible rfl
          try simp only [List.getElem_toArray, List.getElem_cons_succ, List.getElem_cons_zero, Act.put, List.setIfInBounds_toArray, List.set_cons_zero, List.set_cons_succ]
          refine wpAnyH_take (i := 16) (oi := _) (v := ?_) rfl (by kernel_rfl) (by kernel_rfl) (by kernel_rfl) (fun _ _ _ h => h) (Or.inl ⟨by rfl, ?_⟩) (by assumption) ?_
          rotate_left
          · intro w hSw
            try dsimp only at hSw
            try simp only [List.getElem_toArray, List.getElem_cons_succ, List.getElem_cons_zero]
            go_simp
            try with_reducible rfl
          try simp only [List.getElem_toArray, List.getElem_cons_succ, List.getElem_cons_zero, Act.put, List.setIfInBounds_toArray, List.set_cons_zero, List.set_cons_succ]
          refine wpAnyH_take (i := 17) (oi := _) (v := undef) rfl (by kernel_rfl) (by kernel_rfl) (by kernel_rfl) (fun _ _ _ h => h) (Or.inr ⟨by rfl, rfl⟩) (by assumption) ?_
          try simp only [List.getElem_toArray, List.getElem_cons_succ, List.getElem_cons_zero, Act.put, List.setIfInBounds_toArray, List.set_cons_zero, List.set_cons_succ]
          refine wpAnyH_take (i := 18) (oi := _) (v := undef) rfl (by kernel_rfl) (by kernel_rfl) (by kernel_rfl) (fun _ _ _ h => h) (Or.inr ⟨by rfl, rfl⟩) (by assumption) ?_
          try simp only [List.getElem_toArray, List.getElem_cons_succ, List.getElem_cons_zero, Act.put, List.setIfInBounds_toArray, List.set_cons_zero, List.set_cons_succ]
          refine wpAnyH_take (i := 19) (oi := _) (v := undef) rfl (by kernel_rfl) (by kernel_rfl) (by kernel_rfl) (fun _ _ _ h => h) (Or.inr ⟨by rfl, rfl⟩) (by assumption) ?_
          try simp only [List.getElem_toArray, List.getElem_cons_succ, List.getElem_cons_zero, Act.put, List.setIfInBounds_toArray, List.set_cons_zero, List.set_cons_succ]
          refine wpAnyH_take (i := 20) (oi := _) (v := ?_) rfl (by kernel_rfl) (by kernel_rfl) (by kernel_rfl) (fun _ _ _ h => h) (Or.inl ⟨by rfl, ?_⟩) (by assumption) ?_
          rotate_left
          · intro w hSw
            try dsimp only at hSw
            try simp only [List.getElem_toArray, List.getElem_cons_succ, List.getElem_cons_zero]
            go_simp
            try with_reducible rfl
          try simp only [List.getElem_toArray, List.getElem_cons_succ, List.getElem_cons_zero, Act.put, List.setIfInBounds_toArray, List.set_cons_zero, List.set_cons_succ]
          refine wpAnyH_take (i := 21) (oi := _) (v := ?_) rfl (by kernel_rfl) (by kernel_rfl) (by kernel_rfl) (fun _ _ _ h => h) (Or.inl ⟨by rfl, ?_⟩) (by assumption) ?_
          rotate_left
          · intro w hSw
            try dsimp only at hSw
            try simp only [List.getElem_toArray, List.getElem_cons_succ, List.getElem_cons_zero]
            go_simp
            try with_reducible rfl
          try simp only [List.getElem_toArray, List.getElem_cons_succ, List.getElem_cons_zero, Act.put, List.setIfInBounds_toArray, List.set_cons_zero, List.set_cons_succ]
          refine wpAnyH_take (i := 22) (oi := _) (v := undef) rfl (by kernel_rfl) (by kernel_rfl) (by kernel_rfl) (fun _ _ _ h => h) (Or.inr ⟨by rfl, rfl⟩) (by assumption) ?_
          try simp only [List.getElem_toArray, List.getElem_cons_succ, List.getElem_cons_zero, Act.put, List.setIfInBounds_toArray, List.set_cons_zero, List.set_cons_succ]
          refine wpAnyH_take (i := 23) (oi := _) (v := undef) rfl (by kernel_rfl) (by kernel_rfl) (by kernel_rfl) (fun _ _ _ h => h) (Or.inr ⟨by rfl, rfl⟩) (by assumption) ?_
          try simp only [List.getElem_toArray, List.getElem_cons_succ, List.getElem_cons_zero, Act.put, List.setIfInBounds_toArray, List.set_cons_zero, List.set_cons_succ]
          refine wpAnyH_take (i := 24) (oi := _) (v := undef) rfl (by kernel_rfl) (by kernel_rfl) (by kernel_rfl) (fun _ _ _ h => h) (Or.inr ⟨by rfl, rfl⟩) (by assumption) ?_
          try simp only [List.getElem_toArray, List.getElem_cons_succ, List.getElem_cons_zero, Act.put, List.setIfInBounds_toArray, List.set_cons_zero, List.set_cons_succ]
          refine wpAnyH_take (i := 25) (oi := _) (v := undef) rfl (by kernel_rfl) (by kernel_rfl) (by kernel_rfl) (fun _ _ _ h => h) (Or.inr ⟨by rfl, rfl⟩) (by assumption) ?_
          try simp only [List.getElem_toArray, List.getElem_cons_succ, List.getElem_cons_zero, Act.put, List.setIfInBounds_toArray, List.set_cons_zero, List.set_cons_succ]
          refine wpAnyH_take (i := 26) (oi := _) (v := undef) rfl (by kernel_rfl) (by kernel_rfl) (by kernel_rfl) (fun _ _ _ h => h) (Or.inr ⟨by rfl, rfl⟩) (by assumption) ?_
          try simp only [List.getElem_toArray, List.getElem_cons_succ, List.getElem_cons_zero, Act.put, List.setIfInBounds_toArray, List.set_cons_zero, List.set_cons_succ]
          refine wpAnyH_take (i := 27) (oi := _) (v := undef) rfl (by kernel_rfl) (by kernel_rfl) (by kernel_rfl) (fun _ _ _ h => h) (Or.inr ⟨by rfl, rfl⟩) (by assumption) ?_
          try simp only [List.getElem_toArray, List.getElem_cons_succ, List.getElem_cons_zero, Act.put, List.setIfInBounds_toArray, List.set_cons_zero, List.set_cons_succ]
          refine wpAnyH_take (i := 28) (oi := _) (v := undef) rfl (by kernel_rfl) (by kernel_rfl) (by kernel_rfl) (fun _ _ _ h => h) (Or.inr ⟨by rfl, rfl⟩) (by assumption) ?_
          try simp only [List.getElem_toArray, List.getElem_cons_succ, List.getElem_cons_zero, Act.put, List.setIfInBounds_toArray, List.set_cons_zero, List.set_cons_succ]
          refine wpAnyH_take (i := 29) (oi := _) (v := undef) rfl (by kernel_rfl) (by kernel_rfl) (by kernel_rfl) (fun _ _ _ h => h) (Or.inr ⟨by rfl, rfl⟩) (by assumption) ?_
          try simp only [List.getElem_toArray, List.getElem_cons_succ, List.getElem_cons_zero, Act.put, List.setIfInBounds_toArray, List.set_cons_zero, List.set_cons_succ]
          refine wpAnyH_take (i := 30) (oi := _) (v := ?_) rfl (by kernel_rfl) (by kernel_rfl) (by kernel_rfl) (fun _ _ _ h => h) (Or.inl ⟨by rfl, ?_⟩) (by assumption) ?_
          rotate_left
          · intro w hSw
            try dsimp only at hSw
            try simp only [List.getElem_toArray, List.getElem_cons_succ, List.getElem_cons_zero]
            go_simp
            try with_reducible rfl
          try simp only [List.getElem_toArray, List.getElem_cons_succ, List.getElem_cons_zero, Act.put, List.setIfInBounds_toArray, List.set_cons_zero, List.set_cons_succ]
          refine wpAnyH_take (i := 31) (oi := _) (v := ?_) rfl (by kernel_rfl) (by kernel_rfl) (by kernel_rfl) (fun _ _ _ h => h) (Or.inl ⟨by rfl, ?_⟩) (by assumption) ?_
          rotate_left
          · intro w hSw
            try dsimp only at hSw
            try simp only [List.getElem_toArray, List.getElem_cons_succ, List.getElem_cons_zero]
            go_simp
            try with_reducible rfl
          try simp only [List.getElem_toArray, List.getElem_cons_succ, List.getElem_cons_zero, Act.put, List.setIfInBounds_toArray, List.set_cons_zero, List.set_cons_succ]
          refine wpAnyH_done (by kernel_rfl) ?_ _
          all_goals (
            have HSn := Lib.hid (show Sx w1 w9 [(0, r, runF (newF [3, 2]) (A0.take (q + 1)))] [] by rw [HNx.out]; exact HS9.out.sub (by intro x hx; simp at hx ⊢; simp [hx]) (fun b hb => by cases hb))
            clear hk7 hkd hk8 hk9 HCx HEq HDd HSd
            go_wp2_with fail
            refine ⟨⟨q + 1, by omega, by go_num, HSn⟩, ?_⟩
            simp [intOf]
            omega)
      · obtain rfl : q = l0 := by omega
        have HGf := Lib.hid (grown_trans HG1.out HSq.out.grown)
        go_wp2_with fail
        refine (HLv.out _).mono ?_
        rintro e1 wl ⟨rfl, gl⟩
        have HGl := Lib.hid (grown_trans HGf.out gl)
        clear gl
        go_wp2_with fail
        go_ret
        exact ⟨rfl, HGl.out⟩
theorem keeps_say (W : World) (s0 : Option Addr) (l0 c0 : Nat) (A0 : List FOp) (act0 : OpsAre W s0 l0 A0) (s2 : Option Addr) (l2 c2 : Nat) (P : List (List Int)) (act2 : IntRows W s2 l2 1 P) :
    Calls Tryz.prog 4 #[.slice s0 l0 c0, .slice s2 l2 c2] W fun e w' => e = .returned (.bool true) ∧ Below W.heap.size W w' := said (keeps_walk act0 act2)
end Go.Proofs.YtefiiooibbkffaaGreat
