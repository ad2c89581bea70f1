/- Layer 17 (landed): lay, in all its ways. Layer 17 (landed): a process that is new, files' sizes, a world that is made. Layer 17 (landed): a process that is new; a world that is made. Layer 17 (landed): a world that is made. Layer 17 (landed): the lowest number that is free. Layer 17 (landed): a child beside its parent; slots that two processes have. -/
import Derived.Test.YtefiiooibbkffaaGreatFlDr
namespace Go.Proofs.YtefiiooibbkffaaGreat
open Go.ChangeShapes Go.WideShapes Go.ChangeAt Go.RowKit Go.Deep Go.Sort
set_option linter.unusedVariables false
set_option linter.unusedSimpArgs false

theorem clip_f {l : List En} {pg : Int} {y : En} (hy : y ∈ clipE l pg) : ∃ x, x ∈ l ∧ y.f = x.f := by
  unfold clipE at hy
  obtain ⟨x, hx, hy⟩ := List.mem_flatMap.1 hy
  unfold clip1 at hy
  split at hy
  · simp at hy
    rcases hy with rfl | rfl
    · exact ⟨x, hx, rfl⟩
    · exact ⟨x, hx, rfl⟩
  · simp at hy
    exact ⟨x, hx, by rw [hy]⟩
theorem both_f {l : List En} {lo hi : Int} {y : En} (hy : y ∈ bothE l lo hi) : ∃ x, x ∈ l ∧ y.f = x.f := by
  obtain ⟨z, hz, e1⟩ := clip_f hy
  obtain ⟨x, hx, e2⟩ := clip_f hz
  exact ⟨x, hx, e1.trans e2⟩
theorem gone_ok {L : List En} (h : RF 0 L) (hf : ∀ x, x ∈ L → x.f ≤ 1000000000) (lo hi : Int) : ∀ x, x ∈ goneE L lo hi → GoodE x ∧ x.f ≤ 1000000000 := fun x hx => by
  refine ⟨(rf_good (rf_gone lo hi h) x hx).1, ?_⟩
  obtain ⟨y, hy, e⟩ := both_f (List.mem_filter.1 hx).1
  rw [e]
  exact hf y hy
theorem map_gone {L : List En} (h : MapL L) (hf : ∀ x, x ∈ L → x.f ≤ 1000000000) (addr : Int) (x : En) (fixed : Bool) : ∀ y, y ∈ (mapV L addr x fixed).gone → GoodE y ∧ y.f ≤ 1000000000 := by
  unfold mapV
  split
  · split
    · exact gone_ok h.rf hf _ _
    · split <;> (intro y hy; cases hy)
  · intro y hy; cases hy
section
variable {w w' : World} {kd kd' : Nat → Ro} {t r : Nat} {h : Gh} {S : Fl} {id : Int} {p : Pr}
theorem lay_okG (k : FW w kd t r h S) (hok : SOk S) (o : FOp) (ho : OkO o) (hp : geA S.ps id = some p) (hok2 : (mapV p.L o.addr (layE S.reg o) o.fixed).err = 0 → SOk (S.did2 id p (mapV p.L o.addr (layE S.reg o) o.fixed) (max S.reg (layE S.reg o).f))) (hlen : p.L.length ≤ 790) :
    Calls Tryz.prog 66 #[.pointer (some ⟨r, 0, none⟩), .pointer (some ⟨(h.g id).b, 0, none⟩), .agg #[.int .i64 o.k, .int .i64 o.proc, .int .i64 o.addr, .int .i64 o.n, .int .i64 o.prot, .bool o.sh, .int .i64 o.file, .int .i64 o.off, .bool o.fixed, .int .i64 o.how, .int .i64 o.ati, .int .i64 o.v, .int .i64 o.hd, .int .i64 o.to]] w fun e w' => e = .returned (.tuple #[.int .i64 (S.lay id p o).n, .int .i64 (S.lay id p o).e]) ∧ DnG h t r kd w w' (S.lay id p o).S := by
  by_cases hm1 : (decide (o.file > 0) && !hasF S.sz o.file) = true
  · have e : S.lay id p o = S.no 7 := by unfold Fl.lay; rw [if_pos hm1]
    rw [e]
    exact (lay_no k hok o _ hm1).mono fun e w' ⟨he, g⟩ => ⟨he, ⟨kd, h, k.grow g, Ch.grown g, fun _ => rfl⟩⟩
  by_cases hm2 : (decide (o.file = 0) && decide (o.off ≠ 0)) = true
  · have e : S.lay id p o = S.no 2 := by unfold Fl.lay; rw [if_neg hm1, if_pos hm2]
    rw [e]
    exact (lay_inval k hok o _ hm2).mono fun e w' ⟨he, g⟩ => ⟨he, ⟨kd, h, k.grow g, Ch.grown g, fun _ => rfl⟩⟩
  have hPI := hok.pi _ (geA_some hp)
  have hgd := map_gone hPI.mp hPI.fb o.addr (layE S.reg o) o.fixed
  obtain ⟨d, hd⟩ : ∃ d, mapV p.L o.addr (layE S.reg o) o.fixed = d := ⟨_, rfl⟩
  have hlay : S.lay id p o = if d.err = 0 then ⟨(S.did2 id p d (max S.reg (layE S.reg o).f)).forget d.gone, d.n, 0⟩ else S.no d.err := by
    unfold Fl.lay
    rw [if_neg hm1, if_neg hm2, hd]
    rfl
  have hm1 := Bool.eq_false_iff.2 hm1
  have hm2 := Bool.eq_false_iff.2 hm2
  rw [hd] at hok2 hgd
  rw [hlay]
  obtain ⟨o1, o2, o3, o4, o5, osh, ofile, ooff, ofix, o10, o11, o12, o13, o14⟩ := o
  have h3 := ho.addr
  have h4 := ho.n
  have h5 := ho.prot
  simp only at *
  clear ho hlay
  have fin : ∀ {e : Ending} {w' : World} {F : Int}, (d.err ≠ 0 ∧ e = .returned (.tuple #[.int .i64 0, .int .i64 d.err]) ∧ DnG h t r kd w w' S) ∨ (d.err = 0 ∧ e = .returned (.tuple #[.int .i64 d.n, .int .i64 0]) ∧ DnG h t r kd w w' ((S.did2 id p d (max S.reg F)).forget d.gone)) →
      e = .returned (.tuple #[.int .i64 (if d.err = 0 then (⟨(S.did2 id p d (max S.reg F)).forget d.gone, d.n, 0⟩ : Res) else S.no d.err).n, .int .i64 (if d.err = 0 then (⟨(S.did2 id p d (max S.reg F)).forget d.gone, d.n, 0⟩ : Res) else S.no d.err).e]) ∧ DnG h t r kd w w' (if d.err = 0 then (⟨(S.did2 id p d (max S.reg F)).forget d.gone, d.n, 0⟩ : Res) else S.no d.err).S := by
    rintro e w' F (⟨h1, h2, h3⟩ | ⟨h1, h2, h3⟩)
    · rw [if_neg h1]; exact ⟨h2, h3⟩
    · rw [if_pos h1]; exact ⟨h2, h3⟩
  cases osh with
  | false =>
    have hx : layE S.reg ⟨o1, o2, o3, o4, o5, false, ofile, ooff, ofix, o10, o11, o12, o13, o14⟩ = ⟨0, o4, ofile, ooff, false, o5, 7, 0, 0, false⟩ := by unfold layE; simp
    rw [hx] at hd hok2 ⊢
    rcases Int.lt_trichotomy ofile 0 with hf | hf | hf
    · exact (lay_an k hok h3 h4 h5 hp hm1 hm2 hf d hd hok2 (fun _ => hgd) hlen).mono fun e w' hh => fin hh
    · subst hf
      exact (lay_az k hok h3 h4 h5 hp hm1 hm2 d hd hok2 (fun _ => hgd) hlen).mono fun e w' hh => fin hh
    · exact (lay_ap k hok h3 h4 h5 hp hm1 hm2 hf d hd hok2 (fun _ => hgd) hlen).mono fun e w' hh => fin hh
  | true =>
    rcases Int.lt_trichotomy ofile 0 with hf | hf | hf
    · have hx : layE S.reg ⟨o1, o2, o3, o4, o5, true, ofile, ooff, ofix, o10, o11, o12, o13, o14⟩ = ⟨0, o4, ofile, ooff, true, o5, 7, 1, 0, false⟩ := by unfold layE; simp; omega
      rw [hx] at hd hok2 ⊢
      exact (lay_cn k hok h3 h4 h5 hp hm1 hm2 hf d hd hok2 (fun _ => hgd) hlen).mono fun e w' hh => fin hh
    · subst hf
      have hx : layE S.reg ⟨o1, o2, o3, o4, o5, true, 0, ooff, ofix, o10, o11, o12, o13, o14⟩ = ⟨0, o4, S.reg + 1, ooff, true, o5, 7, 1, 0, false⟩ := by unfold layE; simp
      rw [hx] at hd hok2 ⊢
      exact (lay_bz k hok h3 h4 h5 hp hm1 hm2 d hd hok2 (fun _ => hgd) hlen).mono fun e w' hh => fin hh
    · have hx : layE S.reg ⟨o1, o2, o3, o4, o5, true, ofile, ooff, ofix, o10, o11, o12, o13, o14⟩ = ⟨0, o4, ofile, ooff, true, o5, 7, 1, 0, false⟩ := by unfold layE; simp; omega
      rw [hx] at hd hok2 ⊢
      exact (lay_cp k hok h3 h4 h5 hp hm1 hm2 hf d hd hok2 (fun _ => hgd) hlen).mono fun e w' hh => fin hh
theorem lay_ok (k : FW w kd t r h S) (hok : SOk S) (o : FOp) (ho : OkO o) (hp : geA S.ps id = some p) (hok2 : (mapV p.L o.addr (layE S.reg o) o.fixed).err = 0 → SOk (S.did2 id p (mapV p.L o.addr (layE S.reg o) o.fixed) (max S.reg (layE S.reg o).f))) (hlen : p.L.length ≤ 790) :
    Calls Tryz.prog 66 #[.pointer (some ⟨r, 0, none⟩), .pointer (some ⟨(h.g id).b, 0, none⟩), .agg #[.int .i64 o.k, .int .i64 o.proc, .int .i64 o.addr, .int .i64 o.n, .int .i64 o.prot, .bool o.sh, .int .i64 o.file, .int .i64 o.off, .bool o.fixed, .int .i64 o.how, .int .i64 o.ati, .int .i64 o.v, .int .i64 o.hd, .int .i64 o.to]] w fun e w' => e = .returned (.tuple #[.int .i64 (S.lay id p o).n, .int .i64 (S.lay id p o).e]) ∧ Dn t r kd w w' (S.lay id p o).S :=
  (lay_okG k hok o ho hp hok2 hlen).mono fun e w' ⟨h1, h2⟩ => ⟨h1, h2.dn⟩
end
end Go.Proofs.YtefiiooibbkffaaGreat

namespace Go.Proofs.YtefiiooibbkffaaGreat
open Go.ChangeShapes Go.WideShapes Go.ChangeAt Go.RowKit Go.Deep Go.Sort
open Go.Maps (Keyed)
set_option linter.unusedVariables false
set_option linter.unusedSimpArgs false

/-- 'append([]int{}, l...)': a row of its own. -/
theorem wpList_zcopy {ops : Array Oper} {rest : List Oper} {o : Oper} {a : Act} {Q : Exit → Act → World → Prop} (w : World) (hgd : o.guard = none) (s x : Operand)
    (ho : o.op = .call { callee := .builtin .append, args := #[s, x], argTypes := #[22, 22] }) (v : Value) (xs : List Int) (H : Nat) (hH : w.heap.size = H) (hs : a.eval s = .slice (some ⟨H, 0, none⟩) 0 0) (hx : a.eval x = v)
    (h : RowOf zCells 1 (w.alloc (.cells #[] 3)) v xs) (hl : xs.length ≤ 1000000)
    (hK : ∀ g cap w', ZOwn w' H (.slice (some ⟨g, 0, none⟩) xs.length cap) xs → w.grownBy w' none → wpList Tryz.prog ops Q rest (a.put o.dst (.slice (some ⟨g, 0, none⟩) xs.length cap)) w') :
    wpList Tryz.prog ops Q (o :: rest) a (w.alloc (.cells #[] 3)) := by
  obtain ⟨i0, hi, hz0, hz1, hz2⟩ := info_parts info_intZ
  subst hH
  have hown : (w.alloc (.cells #[] 3)).ownsRow w.heap.size 3 1 (.slice (some ⟨w.heap.size, 0, none⟩) 0 0) 0 [] :=
    ⟨by simp, .inr ⟨w.heap.size, 0, #[], rfl, Nat.le_refl _, heap_alloc_new w _, Nat.le_refl _, Nat.zero_le _, by simp, by simp⟩⟩
  have ga := World.grownBy_alloc w (.cells #[] 3) none
  rcases h.2 with ⟨rfl, h0⟩ | ⟨g, of, c, rfl, hg, hc⟩
  · refine wpList_append_own_none hgd s x 22 ho w.heap.size 3 i0 1 Tryz.underlying22 hi _ 0 [] hs hown hx ?_
    have hx0 := List.length_eq_zero_iff.1 h0
    subst hx0
    exact hK w.heap.size 0 _ hown ga
  · refine wpList_append_own_at _ hgd s x 22 ho w.heap.size 3 i0 (.int .i64 0) 1 8 Tryz.underlying22 hi hz0 hz1 hz2 rfl (by decide) (.slice (some ⟨w.heap.size, 0, none⟩) 0 0) 0 [] hs hown ⟨g, of, none⟩ xs.length c (xs.flatMap zCells) hx h.1 (fun j u hu => by rw [Addr.add_mid]; exact hc j u hu) (z_ones xs) (by unfold maxLen; omega) (by omega) (by simp) ?_
    intro v' w' hown' hgrow hnil hat
    rw [Nat.zero_add, List.nil_append] at hown'
    have hv : ∃ g' cap, v' = .slice (some ⟨g', 0, none⟩) xs.length cap := by
      rcases hown'.2 with ⟨h1, _⟩ | ⟨g', cap, cur, h1, _⟩
      · exact absurd (hnil.1 h1).1 (by simp)
      · exact ⟨g', cap, h1⟩
    obtain ⟨g', cap, rfl⟩ := hv
    exact hK g' cap w' hown' (grown_at ga hgrow (Nat.le_refl _))
/-- A list of numbers, wherever it lies; one of none may stand at whatever address. -/
def ZR (w : World) (v : Value) (L : List Int) : Prop := RowOf zCells 1 w v L ∨ (L = [] ∧ ∃ a c, v = .slice (some a) 0 c)
theorem ZR.grow {w w' : World} {v : Value} {L : List Int} (h : ZR w v L) (g : w.grownBy w' none) : ZR w' v L := h.imp (fun h => rowOf_grow h g) id
theorem ZR.form {w : World} {v : Value} {L : List Int} (h : ZR w v L) : (v = .slice none 0 0 ∧ L = []) ∨ ∃ a c, v = .slice (some a) L.length c := by
  rcases h with h | ⟨rfl, a, c, rfl⟩
  · rcases h.2 with ⟨rfl, h0⟩ | ⟨g, o, c, rfl, hg, hc⟩
    · exact .inl ⟨rfl, List.length_eq_zero_iff.1 h0⟩
    · exact .inr ⟨⟨g, o, none⟩, c, rfl⟩
  · exact .inr ⟨a, c, rfl⟩
theorem ZR.at {w : World} {v : Value} {L : List Int} (h : ZR w v L) {j : Nat} {x : Int} (hx : L[j]? = some x) : ∃ g o c, v = .slice (some ⟨g, o, none⟩) L.length c ∧ w.cell? ⟨g, o + j, none⟩ = some (.int .i64 x) := by
  rcases h with h | ⟨rfl, _⟩
  · exact z_cells h hx
  · simp at hx
theorem eql_z_some (w : World) (a : Addr) (n c : Nat) : (binOp .eql 22 (.slice (some a) n c) (.slice none 0 0)).run Tryz.prog w = .ok (.bool false) w := by
  have h1 : ∀ d : Nat, (Op.equalIn (d + 1) 22 (.slice (some a) n c) (.slice none 0 0)).run Tryz.prog w = .ok false w := fun d => by
    simp [Op.equalIn, run_underlying Tryz.underlying22]
  simp only [binOp]
  simp [Op.equal, Op.maxDepth, h1 9999]
theorem eql_z_none (w : World) : (binOp .eql 22 (.slice none 0 0) (.slice none 0 0)).run Tryz.prog w = .ok (.bool true) w := by kernel_rfl
theorem zclone_ok {w : World} {u : Value} {L : List Int} (h : ZR w u L) (hl : L.length ≤ 1000000) : Calls Tryz.prog 31 #[u] w fun e w' => ∃ u', e = .returned u' ∧ ZOwn w' w.heap.size u' L ∧ w.grownBy w' none := by
  rcases h.form with ⟨rfl, rfl⟩ | ⟨a, c, rfl⟩
  · have hq := eql_z_none
    clear h
    go_enter Tryz.func31, Tryz.ntmps31
    go_wp2_with fail
    go_ret
    exact ⟨_, rfl, OwnOf.nil _ _, grown_refl _ _⟩
  · have hq := fun wx => eql_z_some wx a L.length c
    rcases h with h | ⟨rfl, _⟩
    · have HA := Lib.hid (rowOf_grow h (World.grownBy_alloc w (.cells #[] 3) none))
      clear h
      go_enter Tryz.func31, Tryz.ntmps31
      go_wp2_with (at_builtin; refine wpList_zcopy w rfl _ _ rfl _ L w.heap.size rfl rfl rfl HA.out (by omega) ?_; intro g8 c8 w8 hown8 hg8; have HO8 := Lib.hid hown8; have HG8 := Lib.hid hg8; clear hown8 hg8)
      go_ret
      exact ⟨_, rfl, HO8.out, HG8.out⟩
    · have hown : ZOwn (w.alloc (.cells #[] 3)) w.heap.size (.slice (some ⟨w.heap.size, 0, none⟩) 0 0) [] :=
        ⟨by simp, .inr ⟨w.heap.size, 0, #[], rfl, Nat.le_refl _, heap_alloc_new w _, Nat.le_refl _, Nat.zero_le _, by simp, by simp⟩⟩
      have HO := Lib.hid hown
      have HG := Lib.hid (World.grownBy_alloc w (.cells #[] 3) none)
      clear hown
      obtain ⟨i0, hi, hz0, hz1, hz2⟩ := info_parts info_intZ
      simp only [List.length_nil] at *
      go_enter Tryz.func31, Tryz.ntmps31
      go_wp2_with (at_builtin; refine wpList_append_own_at _ rfl _ _ 22 rfl w.heap.size 3 i0 (.int .i64 0) 1 8 Tryz.underlying22 hi hz0 hz1 hz2 rfl (by decide) (.slice (some ⟨w.heap.size, 0, none⟩) 0 0) 0 [] rfl HO.out a 0 c [] rfl rfl (fun j u hu => by simp at hu) (by simp) (by unfold maxLen; omega) (by omega) (by simp) ?_; intro v' w' hown' hgrow hnil hat; have HO8 := Lib.hid hown'; have HG8 := Lib.hid (grown_at HG.out hgrow (Nat.le_refl _)); clear hown' hgrow hnil hat)
      go_ret
      exact ⟨_, rfl, HO8.out, HG8.out⟩
end Go.Proofs.YtefiiooibbkffaaGreat

namespace Go.Proofs.YtefiiooibbkffaaGreat
open Go.ChangeShapes Go.WideShapes Go.ChangeAt Go.RowKit Go.Deep Go.Sort
open Go.Maps (Keyed)
set_option linter.unusedVariables false
set_option linter.unusedSimpArgs false

/-- An empty process. -/
structure NewP (w w' : World) (G : PG) : Prop where
  hb : w'.heap[G.b]? = some (.cells #[.pointer (some ⟨G.m, 0, none⟩), .map (some G.sm)] 108 (0, 0))
  vm : VM w' G.m G.v []
  nv : G.v = .slice none 0 0
  sm : MapV Tryz.prog 3 klI okW w' G.sm []
  o1 : w.heap.size ≤ G.m
  o2 : G.m < G.sm
  o3 : G.sm < G.b
theorem NewP.grow {w w' w2 : World} {G : PG} (h : NewP w w' G) (g : w'.grownBy w2 none) : NewP w w2 G :=
  ⟨(g.block _ (heap_lt h.hb) (by simp)).trans h.hb, h.vm.grow g, h.nv, h.sm.kept (g.block _ h.sm.lt (by simp)), h.o1, h.o2, h.o3⟩
theorem newP_ok (w : World) : Calls Tryz.prog 30 #[] w fun e w' => ∃ G, e = .returned (.pointer (some ⟨G.b, 0, none⟩)) ∧ NewP w w' G ∧ w.grownBy w' none := by
  have HN := Lib.hid (new_ok w)
  go_enter Tryz.func30, Tryz.ntmps30
  go_wp2_with fail
  refine HN.out.mono ?_
  rintro e w1 ⟨rfl, hV, g1⟩
  have hm := MapV.made Tryz.prog 3 klI okW w1
  have ga := World.grownBy_alloc w1 (.map #[] 0) none
  have hsz := World.size_alloc w1 (.map #[] 0)
  have HP := Lib.hid (show NewP w ((w1.alloc (.map #[] 0)).alloc (.cells #[.pointer (some ⟨w.heap.size, 0, none⟩), .map (some w1.heap.size)] 108)) ⟨w1.heap.size + 1, w.heap.size, w1.heap.size, .slice none 0 0⟩ from by
    refine ⟨heap_second' w1 _ _, (hV.grow ga).grow (World.grownBy_alloc _ _ none), rfl, hm.kept ((World.grownBy_alloc (w1.alloc (.map #[] 0)) _ none).block _ hm.lt (by simp)), Nat.le_refl _, ?_, Nat.lt_succ_self _⟩
    have := hV.lt
    exact this)
  have HG := Lib.hid (grown_trans g1 (grown_trans ga (World.grownBy_alloc (w1.alloc (.map #[] 0)) (.cells #[.pointer (some ⟨w.heap.size, 0, none⟩), .map (some w1.heap.size)] 108) none)))
  clear hV g1 hm ga
  have hmk : (Instr.makeMap 106 none).run Tryz.prog w1 = .ok (.map (some w1.heap.size)) (w1.alloc (.map #[] 0)) := rfl
  go_wp2_with fail
  go_ret
  exact ⟨_, rfl, HP.out, HG.out⟩
theorem wrong_ok (w : World) (n : Int) : Calls Tryz.prog 27 #[.int .i64 n] w fun e w' => e = .returned (.bool (!maySzB n)) ∧ w' = w := by
  have HM := Lib.hid (maySize_ok w n)
  go_enter Tryz.func27, Tryz.ntmps27
  go_wp2_with fail
  refine HM.out.mono ?_
  rintro e w1 ⟨rfl, e1⟩
  subst e1
  go_wp2_with fail
  go_ret
  exact ⟨rfl, rfl⟩
set_option maxHeartbeats 1000000 in
theorem zindex_ok {w : World} {s : Option Addr} {c : Nat} {R : List Int} (h : ZR w (.slice s R.length c) R) (hl : R.length ≤ 1000000) :
    Calls Tryz.prog 63 #[.slice s R.length c, .func (.func 27) #[] #[]] w fun e w' => ∃ z : Int, e = .returned (.int .i64 z) ∧ decide (z ≥ 0) = R.any (fun n => !maySzB n) ∧ w.grownBy w' none := by
  have HR := Lib.hid h
  have HC := Lib.hid wrong_ok
  clear h
  go_enter Tryz.func63, Tryz.ntmps63
  go_wp2_with fail
  go_loopw [8] (fun iv wr => ∃ j : Nat, j ≤ R.length ∧ iv = .int .i64 j ∧ Hid ((R.take j).any (fun n => !maySzB n) = false) ∧ Hid (w.grownBy wr none)) (fun iv _ => R.length - (intOf iv).toNat)
  case atStart => exact ⟨0, by omega, rfl, rfl, grown_refl _ _⟩
  case round =>
    obtain ⟨j, hj, rfl, HZ, HG⟩ := hrel
    by_cases hlt : j < R.length
    · obtain ⟨n, hr⟩ : ∃ n, R[j]? = some n := ⟨_, List.getElem?_eq_getElem hlt⟩
      obtain ⟨g, o, c2, hv, k0⟩ := (HR.out.grow HG.out).at hr
      injection hv with e1 e2 e3
      subst e1 e3
      have HF := Lib.hid (HC.out wr n)
      have htk := takel_at hr
      have hmem := List.mem_of_getElem? hr
      cases hq : maySzB n with
      | false =>
        have HA := Lib.hid (show R.any (fun n => !maySzB n) = true from List.any_eq_true.2 ⟨_, hmem, by simp [hq]⟩)
        rw [hq] at HF
        clear htk hmem hq hr HZ
        go_wp2_with fail
        refine HF.out.mono ?_
        rintro e w3 ⟨rfl, e3⟩
        subst e3
        go_wp2_with fail
        go_ret
        exact ⟨j, rfl, by rw [HA.out]; exact decide_eq_true (by omega), HG.out⟩
      | true =>
        have HN := Lib.hid (show (R.take (j + 1)).any (fun n => !maySzB n) = false by rw [htk, List.any_append, HZ.out]; simp [hq])
        rw [hq] at HF
        clear htk hmem hq hr HZ
        go_wp2_with fail
        refine HF.out.mono ?_
        rintro e w3 ⟨rfl, e3⟩
        subst e3
        go_wp2_with fail
        go_roundw
        case rel => exact ⟨j + 1, by omega, by go_num, HN, HG⟩
        case measure => simp [intOf]; omega
    · obtain rfl : j = R.length := by omega
      rw [List.take_length] at HZ
      go_wp2_with fail
      go_ret
      exact ⟨-1, rfl, by rw [HZ.out]; rfl, HG.out⟩
theorem zcontains_ok {w : World} {s : Option Addr} {c : Nat} {R : List Int} (h : ZR w (.slice s R.length c) R) (hl : R.length ≤ 1000000) :
    Calls Tryz.prog 29 #[.slice s R.length c, .func (.func 27) #[] #[]] w fun e w' => e = .returned (.bool (R.any (fun n => !maySzB n))) ∧ w.grownBy w' none := by
  have HI := Lib.hid (zindex_ok h hl)
  obtain ⟨d, hd⟩ : ∃ d, R.any (fun n => !maySzB n) = d := ⟨_, rfl⟩
  rw [hd] at HI ⊢
  clear h hd
  go_enter Tryz.func29, Tryz.ntmps29
  go_wp2_with fail
  refine HI.out.mono ?_
  rintro e w1 ⟨z, rfl, hz, g1⟩
  have HG := Lib.hid g1
  clear g1
  go_wp2_with fail
  go_ret
  exact ⟨rfl, HG.out⟩
end Go.Proofs.YtefiiooibbkffaaGreat

namespace Go.Proofs.YtefiiooibbkffaaGreat
open Go.ChangeShapes Go.WideShapes Go.ChangeAt Go.RowKit Go.Deep Go.Sort
open Go.Maps (Keyed)
set_option linter.unusedVariables false
set_option linter.unusedSimpArgs false

theorem mayNew_ok {sizes : List Int} (h : mayNewB sizes = true) : sizes.length ≤ 16 ∧ ∀ n, n ∈ sizes → okI n := by
  unfold mayNewB at h
  rw [Bool.and_eq_true, decide_eq_true_eq, List.all_eq_true] at h
  exact ⟨h.1, fun n hn => by have := of_decide_eq_true (h.2 n hn); exact ⟨by omega, by omega⟩⟩
theorem any_may (sizes : List Int) : (sizes.any fun n => !maySzB n) = !(sizes.all fun n => decide (0 ≤ n ∧ n ≤ 4096)) := by
  rw [List.not_all_eq_any_not]
  rfl
theorem sOk_new {sizes : List Int} (h : mayNewB sizes = true) : SOk (newF sizes) := by
  obtain ⟨h1, h2⟩ := mayNew_ok h
  refine ⟨h1, h2, fun q hq => ?_, fun q hq a ha => ?_, by simp [newF], by simp [newF], by simp [newF], by simp [newF], fun q hq => ?_, by simp [newF]⟩
  · simp only [newF, List.mem_singleton] at hq
    subst hq
    exact ⟨mapL_nil, by simp, by simp, by simp⟩
  · simp only [newF, List.mem_singleton] at hq
    subst hq
    cases ha
  · simp only [newF, List.mem_singleton] at hq
    subst hq
    exact okS (by decide) (by decide)
theorem new_no (w : World) {s : Option Addr} {c : Nat} {R : List Int} (h : ZR w (.slice s R.length c) R) (hl : R.length ≤ 1000000) (hno : mayNewB R = false) :
    Calls Tryz.prog 13 #[.slice s R.length c] w fun e w' => e = .returned (.tuple #[.pointer none, .int .i64 2]) ∧ w.grownBy w' none := by
  by_cases h16 : R.length ≤ 16
  · have b1 : decide ((R.length : Int) > 16) = false := decide_eq_false (by omega)
    have hC := zcontains_ok h hl
    unfold mayNewB at hno
    rw [decide_eq_true h16, Bool.true_and] at hno
    rw [any_may, hno] at hC
    have HC := Lib.hid hC
    clear h hC hno
    generalize R.length = n at *
    go_enter Tryz.func13, Tryz.ntmps13
    go_wp2_with fail
    refine HC.out.mono ?_
    rintro e w1 ⟨rfl, g1⟩
    have HG := Lib.hid g1
    clear g1
    go_wp2_with fail
    go_ret2
    exact ⟨rfl, HG.out⟩
  · have b1 : decide ((R.length : Int) > 16) = true := decide_eq_true (by omega)
    clear h hno
    generalize R.length = n at *
    go_enter Tryz.func13, Tryz.ntmps13
    go_wp2_with fail
    go_ret2
    exact ⟨rfl, grown_refl _ _⟩
/-- What the blocks of a new world are for. -/
def kdN (kd : Nat → Ro) (t pm : Nat) (G : PG) (sv : Value) (fm lm r : Nat) : Nat → Ro := fun x =>
  if x = pm then .w t .pm else if x = G.m then .w t (.vm 1) else if x = G.sm then .w t (.sm 1) else if x = G.b then .w t (.pb 1) else if x = fm then .w t .fm else if x = lm then .w t .lm else if x = r then .w t .head else if sv.ownBlock = some x then .w t .sz else kd x
set_option maxHeartbeats 2000000 in
theorem new_yes (w : World) (kd : Nat → Ro) (t : Nat) {s : Option Addr} {c : Nat} {R : List Int} (h : ZR w (.slice s R.length c) R) (hyes : mayNewB R = true) :
    Calls Tryz.prog 13 #[.slice s R.length c] w fun e w' => ∃ r kd' h', e = .returned (.tuple #[.pointer (some ⟨r, 0, none⟩), .int .i64 0]) ∧ FW w' kd' t r h' (newF R) ∧ Ch noRo kd kd' w w' := by
  obtain ⟨h16, hok⟩ := mayNew_ok hyes
  have b1 : decide ((R.length : Int) > 16) = false := decide_eq_false (by omega)
  have hC := zcontains_ok h (by omega)
  have hy := hyes
  unfold mayNewB at hy
  rw [decide_eq_true h16, Bool.true_and] at hy
  rw [any_may, hy] at hC
  have HC := Lib.hid hC
  have HZ := Lib.hid h
  have HN := Lib.hid newP_ok
  clear h hC hyes hy
  have hmk := fun W : World => (show (Instr.makeMap 52 none).run Tryz.prog W = .ok (.map (some W.heap.size)) (W.alloc (.map #[] 0)) from rfl)
  have hmk2 := fun W : World => (show (Instr.makeMap 53 none).run Tryz.prog W = .ok (.map (some W.heap.size)) (W.alloc (.map #[] 0)) from rfl)
  have hmk3 := fun W : World => (show (Instr.makeMap 56 none).run Tryz.prog W = .ok (.map (some W.heap.size)) (W.alloc (.map #[] 0)) from rfl)
  obtain ⟨n, hn⟩ : ∃ n, R.length = n := ⟨_, rfl⟩
  rw [hn] at HC b1 ⊢
  have HNn := Lib.hid hn
  have H16 := Lib.hid h16
  clear hn h16
  go_enter Tryz.func13, Tryz.ntmps13
  go_wp2_with fail
  refine HC.out.mono ?_
  rintro e w1 ⟨rfl, g1⟩
  have HG1 := Lib.hid g1
  clear g1
  go_wp2_with fail
  refine (HN.out _).mono ?_
  rintro e w2 ⟨G, rfl, hP, g2⟩
  have hm1 := MapV.made Tryz.prog 3 klI okW w1
  obtain ⟨w3, hup, hm3, t3⟩ := (hm1.kept (g2.block _ hm1.lt (by simp))).put lawsP (by simp [maxLen]) (.pointer (some ⟨G.b, 0, none⟩)) (okW_of (okS (x := 1) (by decide) (by decide)))
  rw [show kvI 1 = Value.int .i64 1 from rfl] at hup
  have ga1 := World.grownBy_alloc w1 (.map #[] 0) none
  have hs1 := World.size_alloc w1 (.map #[] 0)
  have g13 : w.grownBy w3 none := grown_at (grown_trans HG1.out (grown_trans ga1 g2)) t3.grown HG1.out.size
  have ho1 := hP.o1
  have ho2 := hP.o2
  have ho3 := hP.o3
  have hlt2 := heap_lt hP.hb
  have hs3 := t3.grown.size
  rw [hs1] at ho1
  have hP3 : NewP (w1.alloc (.map #[] 0)) w3 G := ⟨(t3.grown.block _ hlt2 (fun e => by have := Option.some.inj e; omega)).trans hP.hb, ⟨(t3.grown.block _ hP.vm.lt (fun e => by have := Option.some.inj e; omega)).trans hP.vm.head, OwnOf.kept hP.vm.own fun b hb => by rw [hP.nv] at hb; cases hb⟩, hP.nv, hP.sm.kept (t3.grown.block _ hP.sm.lt (fun e => by have := Option.some.inj e; omega)), hP.o1, hP.o2, hP.o3⟩
  have HCl := Lib.hid (zclone_ok (HZ.out.grow g13) (by have := H16.out; omega))
  rw [HNn.out] at HCl
  have HM3 := Lib.hid hm3
  have HP3 := Lib.hid hP3
  have HG3 := Lib.hid g13
  have HLt := Lib.hid (show G.b < w3.heap.size by omega)
  have HO1 := Lib.hid (And.intro ho1 (And.intro ho2 ho3))
  clear hP hm1 hm3 t3 ga1 g13 ho1 ho2 ho3 hlt2 hs3 hP3 hs1 g2
  have HPm := Lib.hid (show w.heap.size ≤ w1.heap.size from HG1.out.size)
  generalize w1.heap.size = pm at *
  go_wp2_with fail
  refine HCl.out.mono ?_
  rintro e w4 ⟨sv, rfl, hO, g4⟩
  have hO' : ZOwn w4 w3.heap.size sv R := hO
  obtain ⟨asv, csv, hsv⟩ := OwnOf.form hO'
  rw [HNn.out] at hsv
  subst hsv
  have g5 := World.grownBy_alloc w4 (.map #[] 0) none
  have g6 := World.grownBy_alloc (w4.alloc (.map #[] 0)) (.map #[] 0) none
  have e5 := World.size_alloc w4 (.map #[] 0)
  have e6 := World.size_alloc (w4.alloc (.map #[] 0)) (.map #[] 0)
  have m5 := MapV.made Tryz.prog 153 spotL okK w4
  have m6 := MapV.made Tryz.prog 3 klI okW (w4.alloc (.map #[] 0))
  have g7 := World.grownBy_alloc ((w4.alloc (.map #[] 0)).alloc (.map #[] 0)) (.cells #[.map (some pm), .slice asv n csv, .map (some w4.heap.size), .map (some (w4.heap.size + 1)), .int .i64 1000] 58) none
  have b7 := heap_alloc_new ((w4.alloc (.map #[] 0)).alloc (.map #[] 0)) (.cells #[.map (some pm), .slice asv n csv, .map (some w4.heap.size), .map (some (w4.heap.size + 1)), .int .i64 1000] 58)
  rw [e6, e5] at b7
  rw [e5] at m6
  have HF := Lib.hid (show ∃ kd' h', FW (((w4.alloc (.map #[] 0)).alloc (.map #[] 0)).alloc (.cells #[.map (some pm), .slice asv n csv, .map (some w4.heap.size), .map (some (w4.heap.size + 1)), .int .i64 1000] 58)) kd' t (w4.heap.size + 1 + 1) h' (newF R) ∧ Ch noRo kd kd' w (((w4.alloc (.map #[] 0)).alloc (.map #[] 0)).alloc (.cells #[.map (some pm), .slice asv n csv, .map (some w4.heap.size), .map (some (w4.heap.size + 1)), .int .i64 1000] 58)) from by
    have g47 := grown_trans g5 (grown_trans g6 g7)
    have g37 := grown_trans g4 g47
    have hP7 := HP3.out.grow g37
    have hs4 := g4.size
    have o1 := HO1.out.1
    have o2 := HO1.out.2.1
    have o3 := HO1.out.2.2
    have olt := HLt.out
    have osv : ∀ b, (Value.slice asv n csv).ownBlock = some b → w3.heap.size ≤ b ∧ b < w4.heap.size := fun b hb => OwnOf.lt hO' hb
    have opm : w.heap.size ≤ pm := HPm.out
    refine ⟨kdN kd t pm G (.slice asv n csv) w4.heap.size (w4.heap.size + 1) (w4.heap.size + 1 + 1), ⟨pm, w4.heap.size, w4.heap.size + 1, .slice asv n csv, fun _ => .pointer none, fun _ => .pointer none, fun _ => G, fun _ => 0, fun _ => .pointer none⟩, ⟨⟨b7, ?_, OwnOf.grow (OwnOf.lower hO' (Nat.zero_le _)) g47, (fun b hb => ?_), (m5.kept (g6.block _ m5.lt (by simp))).kept (g7.block _ (by rw [e6, e5]; omega) (by simp)), ?_, (fun n hn => by cases hn), m6.kept (g7.block _ (by rw [e6, e5]; omega) (by simp)), ?_, (fun n hn => by cases hn)⟩, ⟨HM3.out.kept (g37.block _ HM3.out.lt (by simp)), ?_⟩, ⟨by simp [newF], fun q hq => ?_, fun q hq a ha => ?_⟩⟩, ?_⟩
    · try simp only
      unfold kdN; rw [if_neg (by omega), if_neg (by omega), if_neg (by omega), if_neg (by omega), if_neg (by omega), if_neg (by omega), if_pos rfl]
    · have := osv b hb
      unfold kdN; rw [if_neg (by omega), if_neg (by omega), if_neg (by omega), if_neg (by omega), if_neg (by omega), if_neg (by omega), if_neg (by omega), if_pos hb]
    · try simp only
      unfold kdN; rw [if_neg (by omega), if_neg (by omega), if_neg (by omega), if_neg (by omega), if_pos rfl]
    · try simp only
      unfold kdN; rw [if_neg (by omega), if_neg (by omega), if_neg (by omega), if_neg (by omega), if_neg (by omega), if_pos rfl]
    · try simp only
      unfold kdN; rw [if_pos rfl]
    · simp only [newF, List.mem_singleton] at hq
      subst hq
      refine ⟨hP7.hb, ?_, hP7.vm, ?_, fun b hb => ?_, hP7.sm, ?_⟩
      · try simp only
        unfold kdN; rw [if_neg (by omega), if_neg (by omega), if_neg (by omega), if_pos rfl]
      · try simp only
        unfold kdN; rw [if_neg (by omega), if_pos rfl]
      · simp only [hP7.nv] at hb; cases hb
      · try simp only
        unfold kdN; rw [if_neg (by omega), if_neg (by omega), if_pos rfl]
    · simp only [newF, List.mem_singleton] at hq
      subst hq
      cases ha
    · refine (Ch.grown (R := noRo) (kd := kd) (grown_trans HG3.out g37)).name fun b hb => ?_
      have hne : ¬ (Value.slice asv n csv).ownBlock = some b := fun e => by have := osv b e; have := HG3.out.size; omega
      have := HG3.out.size
      unfold kdN; rw [if_neg (by omega), if_neg (by omega), if_neg (by omega), if_neg (by omega), if_neg (by omega), if_neg (by omega), if_neg (by omega), if_neg hne])
  clear hO hO' g4 g5 g6 e5 e6 m5 m6 g7 b7
  go_wp2_with fail
  go_ret2
  obtain ⟨kd', h', hF, hC⟩ := HF.out
  exact ⟨_, kd', h', rfl, hF, hC⟩
end Go.Proofs.YtefiiooibbkffaaGreat

namespace Go.Proofs.YtefiiooibbkffaaGreat
open Go.ChangeShapes Go.WideShapes Go.ChangeAt Go.RowKit Go.Deep Go.Sort
open Go.Maps (Keyed)
set_option linter.unusedVariables false
set_option linter.unusedSimpArgs false

set_option maxHeartbeats 1000000 in
theorem lowP_ok {α : Type} {w : World} {M : Nat} (N : List (Int × α)) (f : Int → α → Value) (h : MapV Tryz.prog 3 klI okW w M (N.map fun n => (n.1, f n.1 n.2))) (hl : N.length ≤ 1000000) :
    Calls Tryz.prog 132 #[.map (some M)] w fun e w' => e = .returned (.int .i64 (lowA N)) ∧ w' = w := by
  obtain ⟨i0, h0, h1, h2, h3⟩ := lowA_spec N
  rw [h0]
  have HL := Lib.hid (fun (i : Nat) (hi : i ≤ N.length) => (show (Instr.lookup 52 (.map (some M)) (.int .i64 ((i : Int) + 1)) true).run Tryz.prog w = .ok (.tuple #[((geA N ((i : Int) + 1)).map (f ((i : Int) + 1))).getD (.pointer none), .bool (geA N ((i : Int) + 1)).isSome]) w from by
    have hx := h.look2 lawsP (x := (i : Int) + 1) (okW_of ⟨by omega, by omega⟩)
    rw [lookV_map f] at hx
    have h4 : ((geA N ((i : Int) + 1)).map (f ((i : Int) + 1))).isSome = (geA N ((i : Int) + 1)).isSome := by cases geA N ((i : Int) + 1) <;> rfl
    rw [h4] at hx
    exact hx))
  have H2 := Lib.hid h2
  have H3 := Lib.hid h3
  clear h h0 h2 h3
  go_enter Tryz.func132, Tryz.ntmps132
  go_wp2_with fail
  go_loop [3] (fun nv => ∃ i : Nat, i ≤ i0 ∧ nv = .int .i64 ((i : Int) + 1)) (fun nv => i0 + 1 - (intOf nv).toNat)
  case atStart => exact ⟨0, by omega, rfl⟩
  case round =>
    obtain ⟨i, hi, rfl⟩ := hrel
    have hk := HL.out i (by omega)
    by_cases hlt : i < i0
    · have e3 := H3.out i hlt
      rw [e3] at hk
      generalize ((geA N ((i : Int) + 1)).map (f ((i : Int) + 1))).getD (.pointer none) = u at *
      clear e3
      go_wp2_with fail
      go_round
      case rel => exact ⟨i + 1, by omega, by go_num⟩
      case measure => simp [intOf]; omega
    · obtain rfl : i = i0 := by omega
      rw [H2.out] at hk
      simp only [Option.map_none, Option.getD_none, Option.isSome_none] at hk
      go_wp2_with fail
      go_ret
      exact ⟨rfl, rfl⟩
set_option maxHeartbeats 1000000 in
theorem lowH_ok {α : Type} {w : World} {M : Nat} (N : List (Int × α)) (f : Int → α → Value) (h : MapV Tryz.prog 3 klI okW w M (N.map fun n => (n.1, f n.1 n.2))) (hl : N.length ≤ 1000000) :
    Calls Tryz.prog 133 #[.map (some M)] w fun e w' => e = .returned (.int .i64 (lowA N)) ∧ w' = w := by
  obtain ⟨i0, h0, h1, h2, h3⟩ := lowA_spec N
  rw [h0]
  have HL := Lib.hid (fun (i : Nat) (hi : i ≤ N.length) => (show (Instr.lookup 56 (.map (some M)) (.int .i64 ((i : Int) + 1)) true).run Tryz.prog w = .ok (.tuple #[((geA N ((i : Int) + 1)).map (f ((i : Int) + 1))).getD (.pointer none), .bool (geA N ((i : Int) + 1)).isSome]) w from by
    have hx := h.look2 lawsH (x := (i : Int) + 1) (okW_of ⟨by omega, by omega⟩)
    rw [lookV_map f] at hx
    have h4 : ((geA N ((i : Int) + 1)).map (f ((i : Int) + 1))).isSome = (geA N ((i : Int) + 1)).isSome := by cases geA N ((i : Int) + 1) <;> rfl
    rw [h4] at hx
    exact hx))
  have H2 := Lib.hid h2
  have H3 := Lib.hid h3
  clear h h0 h2 h3
  go_enter Tryz.func133, Tryz.ntmps133
  go_wp2_with fail
  go_loop [3] (fun nv => ∃ i : Nat, i ≤ i0 ∧ nv = .int .i64 ((i : Int) + 1)) (fun nv => i0 + 1 - (intOf nv).toNat)
  case atStart => exact ⟨0, by omega, rfl⟩
  case round =>
    obtain ⟨i, hi, rfl⟩ := hrel
    have hk := HL.out i (by omega)
    by_cases hlt : i < i0
    · have e3 := H3.out i hlt
      rw [e3] at hk
      generalize ((geA N ((i : Int) + 1)).map (f ((i : Int) + 1))).getD (.pointer none) = u at *
      clear e3
      go_wp2_with fail
      go_round
      case rel => exact ⟨i + 1, by omega, by go_num⟩
      case measure => simp [intOf]; omega
    · obtain rfl : i = i0 := by omega
      rw [H2.out] at hk
      simp only [Option.map_none, Option.getD_none, Option.isSome_none] at hk
      go_wp2_with fail
      go_ret
      exact ⟨rfl, rfl⟩
end Go.Proofs.YtefiiooibbkffaaGreat

namespace Go.Proofs.YtefiiooibbkffaaGreat
open Go.ChangeShapes Go.WideShapes Go.ChangeAt Go.RowKit Go.Deep Go.Sort
open Go.Maps (Keyed)
set_option linter.unusedVariables false
set_option linter.unusedSimpArgs false

theorem EnB.ch {R : Ro → Prop} {kd kd' : Nat → Ro} {w w' : World} {y : Nat} {x : En} (h : EnB w y x) (hk : kd y = .no) (c : Ch R kd kd' w w') (hr : ¬ R .no) : EnB w' y x ∧ kd' y = .no :=
  ⟨(c.block y h.lt (by rw [hk]; exact hr)).trans h, (c.kd y h.lt).trans hk⟩
theorem geA_qs {n id : Int} {ch pa : Pr} {ps : List (Int × Pr)} {p0 : Pr} (hn : n ≠ id) (hp : geA ps id = some p0) : geA ((n, ch) :: setP ps id pa) n = some ch ∧ geA ((n, ch) :: setP ps id pa) id = some pa := by
  refine ⟨by rw [geA_cons, if_pos rfl], ?_⟩
  rw [geA_cons, if_neg hn, geA_setP, if_pos rfl, hp]
  rfl
theorem setP_no {ps : List (Int × Pr)} {n : Int} {p : Pr} (h : geA ps n = none) : setP ps n p = ps := by
  unfold setP
  conv => rhs; rw [← List.map_id ps]
  refine List.map_congr_left fun q hq => ?_
  rw [if_neg (geA_none h q hq)]
  rfl
theorem qs_ch {n id : Int} {ch ch' pa : Pr} {ps : List (Int × Pr)} (hn : n ≠ id) (h : geA ps n = none) : setP ((n, ch) :: setP ps id pa) n ch' = (n, ch') :: setP ps id pa := by
  have h1 : geA (setP ps id pa) n = none := by rw [geA_setP, if_neg hn, h]
  have h2 := setP_no (p := ch') h1
  unfold setP at h2 ⊢
  rw [List.map_cons, h2]
  simp
theorem qs_pa {n id : Int} {ch pa pa' : Pr} {ps : List (Int × Pr)} (hn : n ≠ id) : setP ((n, ch) :: setP ps id pa) id pa' = (n, ch) :: setP ps id pa' := by
  have h2 := setP_setP ps id pa pa'
  unfold setP at h2 ⊢
  rw [List.map_cons, h2, if_neg hn]
section
variable {w w' : World} {kd kd' : Nat → Ro} {t : Nat} {id : Int} {ι ι' : Nat → Nat} {p : Pr} {g : Int → PG} {sp : Nat → Value} {c : Nat → Option (List UInt8)} {qs : List (Int × Pr)}
/-- A process's page has a slot that is there already. -/
theorem BW.slot_ref (k : BW w kd t g ι sp c qs) {p : Pr} (hp : geA qs id = some p) {pg : Int} {s : Nat} (hS : SlA w kd t (ι s) s (sp s) (c s)) (hw : w.grownBy w' (some (g id).sm))
    (hm : MapV Tryz.prog 3 klI okW w' (g id).sm ((pg, .pointer (some ⟨ι s, 0, none⟩)) :: dropV (p.A.map fun a => (a.1, .pointer (some ⟨ι a.2, 0, none⟩))) pg)) :
    BW w' kd t g ι sp c (setP qs id ⟨p.L, puA p.A pg s⟩) ∧ Ch (fun ρ => ρ = .w t (.sm id)) kd kd w w' := by
  have hP := k.get hp
  have hch : Ch (fun ρ => ρ = .w t (.sm id)) kd kd w w' := Ch.one hw hP.ks
  refine ⟨⟨by rw [setP_ids]; exact k.nd, fun q hq => ?_, fun q hq a ha => ?_⟩, hch⟩
  · rcases mem_setP hq with ⟨h1, h2⟩ | rfl
    · exact (k.pr q h2).ch hch (by simp) (by simp) (by simp) (by simpa using h1)
    · refine ⟨(hch.block _ (heap_lt hP.hb) (by rw [hP.kb]; simp)).trans hP.hb, hP.kb, ⟨(hch.block _ hP.vm.lt (by rw [hP.km]; simp)).trans hP.vm.head, OwnOf.kept hP.vm.own fun x hx => hch.block x (OwnOf.lt hP.vm.own hx).2 (by rw [hP.kv x hx]; simp)⟩, hP.km, hP.kv, ?_, hP.ks⟩
      have e : ((puA p.A pg s).map fun a => (a.1, Value.pointer (some ⟨ι a.2, 0, none⟩))) = (pg, .pointer (some ⟨ι s, 0, none⟩)) :: dropV (p.A.map fun a => (a.1, .pointer (some ⟨ι a.2, 0, none⟩))) pg := by
        unfold puA drA dropV
        rw [List.map_cons, List.filter_map]
        rfl
      rw [e]
      exact hm
  · rcases mem_setP hq with ⟨h1, h2⟩ | rfl
    · exact (k.sl q h2 a ha).ch hch (by simp) (by simp)
    · rcases mem_puA ha with rfl | ⟨ha, -⟩
      · exact hS.ch hch (by simp) (by simp)
      · exact (k.sl _ (geA_some hp) a ha).ch hch (by simp) (by simp)
end
/-- What a fork may turn. -/
def forkRo (t : Nat) (n id : Int) (ρ : Ro) : Prop := ρ = .w t (.vm n) ∨ ρ = .w t (.vr n) ∨ ρ = .w t (.sm n) ∨ ρ = .w t (.sm id)
theorem fork_sm {t : Nat} {n id : Int} : ∀ ρ, ρ = .w t (.sm n) → forkRo t n id ρ := fun ρ h => .inr (.inr (.inl h))
theorem fork_sm2 {t : Nat} {n id : Int} : ∀ ρ, ρ = .w t (.sm id) → forkRo t n id ρ := fun ρ h => .inr (.inr (.inr h))
theorem fork_vm {t : Nat} {n id : Int} : ∀ ρ, vmRo t n ρ → forkRo t n id ρ := fun ρ h => by
  rcases h with h | h
  · exact .inl h
  · exact .inr (.inl h)
theorem fork_own {t : Nat} {n id : Int} : ∀ ρ, forkRo t n id ρ → own t ρ := fun ρ h => by
  rcases h with h | h | h | h <;> exact ⟨_, h⟩
/-- A fork under way. -/
structure TkS (w wr : World) (kd : Nat → Ro) (t : Nat) (g : Int → PG) (n id : Int) (ps : List (Int × Pr)) (k : Fk) (kd' : Nat → Ro) (g' : Int → PG) (ι' : Nat → Nat) (sp' : Nat → Value) : Prop where
  bw : BW wr kd' t g' ι' sp' k.c ((n, k.ch) :: setP ps id k.pa)
  ch : Ch (forkRo t n id) kd kd' w wr
  gb : ∀ x, (g' x).b = (g x).b ∧ (g' x).m = (g x).m ∧ (g' x).sm = (g x).sm
  nx : ∀ q, q ∈ (n, k.ch) :: setP ps id k.pa → ∀ a, a ∈ q.2.A → a.2 < k.nx
def Tk (w wr : World) (kd : Nat → Ro) (t : Nat) (g : Int → PG) (n id : Int) (ps : List (Int × Pr)) (k : Fk) (y : Nat) (x : En) : Prop := ∃ kd' g' ι' sp', TkS w wr kd t g n id ps k kd' g' ι' sp' ∧ EnB wr y x ∧ kd' y = .no
theorem slot_lt {p : Pr} {c : Nat → Option (List UInt8)} {nx : Nat} {pg : Int} (h : ∀ a, a ∈ p.A → a.2 < nx) : (slotF p c nx pg).s < (slotF p c nx pg).nx ∧ nx ≤ (slotF p c nx pg).nx ∧ (∀ a, a ∈ (slotF p c nx pg).p.A → a.2 < (slotF p c nx pg).nx) ∧ (slotF p c nx pg).p.L = p.L ∧ (slotF p c nx pg).p.A.length ≤ p.A.length + 1 ∧ (slotF p c nx pg).nx ≤ nx + 1 := by
  unfold slotF
  cases hg : geA p.A pg with
  | some s => exact ⟨h _ (geA_some hg), Nat.le_refl _, h, rfl, by simp, by simp⟩
  | none =>
    refine ⟨by simp, by simp, fun a ha => ?_, rfl, puA_len _ _ _, Nat.le_refl _⟩
    rcases mem_puA ha with rfl | ⟨h1, -⟩
    · simp
    · have := h a h1; simp only; omega
end Go.Proofs.YtefiiooibbkffaaGreat
