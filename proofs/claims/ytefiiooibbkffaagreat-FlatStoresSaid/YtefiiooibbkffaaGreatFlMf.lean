/- Layer 17 (landed): the slots of pages that went are dropped. Layer 17 (landed): whether a region has a page of some process: a range over the processes. Layer 17 (landed): pages of regions that nobody has any more are dropped. Layer 17 (landed): a process's map turns; its slots are less. -/
import Derived.Test.YtefiiooibbkffaaGreatFlMe
import Derived.Maps.RangeWalk
import Derived.Test.YtefiiooibbkffaaGreatVmpLe
namespace Go.Proofs.YtefiiooibbkffaaGreat
open Go.ChangeShapes Go.WideShapes Go.ChangeAt Go.RowKit Go.Deep Go.Sort
set_option linter.unusedVariables false
set_option linter.unusedSimpArgs false

def delPg (A : List (Int × Nat)) (lo hi : Int) : List (Int × Nat) := A.filter fun a => !decide (lo ≤ a.1 ∧ a.1 < hi)
theorem delPg_none (A : List (Int × Nat)) (lo : Int) : delPg A lo lo = A := List.filter_eq_self.2 fun a _ => by simp; omega
theorem delPg_next (A : List (Int × Nat)) {lo pg : Int} (h : lo ≤ pg) : drA (delPg A lo pg) pg = delPg A lo (pg + 1) := by
  unfold drA delPg
  rw [List.filter_filter]
  refine List.filter_congr fun a _ => ?_
  rw [Bool.eq_iff_iff]
  simp
  omega
theorem forgetP_nil (A : List (Int × Nat)) : forgetP A [] = A := List.filter_eq_self.2 fun a _ => by simp [inGone]
theorem forgetP_next (A : List (Int × Nat)) {gone : List En} {q : Nat} {x : En} (hx : gone[q]? = some x) : delPg (forgetP A (gone.take q)) x.s x.e = forgetP A (gone.take (q + 1)) := by
  unfold forgetP delPg
  rw [List.filter_filter, takel_at hx]
  refine List.filter_congr fun a _ => ?_
  unfold inGone
  rw [List.any_append]
  simp [Bool.and_comm]
theorem grown_same {a b e : World} {x : Nat} (h : a.grownBy b (some x)) (g : b.grownBy e (some x)) : a.grownBy e (some x) :=
  ⟨g.os.trans h.os, g.tape.trans h.tape, g.output.trans h.output, Nat.le_trans h.size g.size, fun k hk hr => (g.block k (Nat.lt_of_lt_of_le hk h.size) hr).trans (h.block k hk hr)⟩
theorem grown_before {a b e : World} {r : Option Nat} (h : a.grownBy b none) (g : b.grownBy e r) : a.grownBy e r :=
  ⟨g.os.trans h.os, g.tape.trans h.tape, g.output.trans h.output, Nat.le_trans h.size g.size, fun k hk hr => (g.block k (Nat.lt_of_lt_of_le hk h.size) hr).trans (h.block k hk (by simp))⟩
section
variable {w w' : World} {kd : Nat → Ro} {t : Nat} {G : PG} {id : Int} {ι : Nat → Nat} {p : Pr}
/-- A process with other slots, behind a turn of its map alone. -/
theorem PAt.slots (h : PAt w kd t G id ι p) (hg : w.grownBy w' (some G.sm)) {A' : List (Int × Nat)} (hm : MapV Tryz.prog 3 klI okW w' G.sm (A'.map fun a => (a.1, .pointer (some ⟨ι a.2, 0, none⟩)))) : PAt w' kd t G id ι ⟨p.L, A'⟩ := by
  have hne : ∀ b, (∃ ρ, kd b = .w t ρ ∧ ρ ≠ .sm id) → some b ≠ some G.sm := fun b ⟨ρ, h1, h2⟩ e => by
    have := h.ks
    rw [← Option.some.inj e, h1] at this
    injection this with _ e2
    exact h2 e2
  exact ⟨(hg.block _ (heap_lt h.hb) (hne _ ⟨_, h.kb, by simp⟩)).trans h.hb, h.kb, ⟨(hg.block _ h.vm.lt (hne _ ⟨_, h.km, by simp⟩)).trans h.vm.head, OwnOf.kept h.vm.own fun b hb => hg.block b (OwnOf.lt h.vm.own hb).2 (hne _ ⟨_, h.kv b hb, by simp⟩)⟩, h.km, h.kv, hm, h.ks⟩
/-- An entry's box, or a row's block, is no map. -/
theorem EnB.keep {y : Nat} {x : En} (hb : EnB w y x) (h : PAt w kd t G id ι p) (hg : w.grownBy w' (some G.sm)) : EnB w' y x := (hg.block _ hb.lt fun e => ne_map hb h.sm (Option.some.inj e)).trans hb
theorem erow_keep {a : Addr} {n c : Nat} {L : List En} (hr : ERow w (.slice (some a) n c) L) (hne : a.block ≠ G.sm) (hg : w.grownBy w' (some G.sm)) : ERow w' (.slice (some a) n c) L := by
  rcases hr with hr | hr
  · refine .inl (RowAt.kept hr hg.size fun a' l' c' e => ?_)
    injection e with e1 e2 e3
    injection e1 with e1
    subst e1
    rcases hr.2 with ⟨h0, _⟩ | ⟨g', o, c2, hv, hlt, _⟩
    · cases h0
    · injection hv with e1 _ _
      injection e1 with e1
      subst e1
      exact hg.block _ hlt fun e => hne (Option.some.inj e)
  · exact .inr hr
set_option maxRecDepth 100000 in
set_option maxHeartbeats 4000000 in
theorem pforget_ok (h : PAt w kd t G id ι p) {s : Option Addr} {c : Nat} {gone : List En} (hr : ∀ W, w.grownBy W (some G.sm) → ERow W (.slice s gone.length c) gone) (hl : gone.length ≤ 100000) (hgd : ∀ x, x ∈ gone → GoodE x) :
    Calls Tryz.prog 117 #[.pointer (some ⟨G.b, 0, none⟩), .slice s gone.length c] w fun e w' => e = .returned (.tuple #[]) ∧ PAt w' kd t G id ι ⟨p.L, forgetP p.A gone⟩ ∧ w.grownBy w' (some G.sm) := by
  have HR := Lib.hid hr
  have HGd := Lib.hid hgd
  have HP0 := Lib.hid (show PAt w kd t G id ι ⟨p.L, forgetP p.A (gone.take 0)⟩ by rw [List.take_zero, forgetP_nil]; exact h)
  clear hr hgd h
  go_enter Tryz.func117, Tryz.ntmps117
  go_wp2_with fail
  go_loopw [9] (fun iv wr => ∃ q : Nat, q ≤ gone.length ∧ iv = .int .i64 q ∧ Hid (PAt wr kd t G id ι ⟨p.L, forgetP p.A (gone.take q)⟩) ∧ Hid (w.grownBy wr (some G.sm))) (fun iv _ => gone.length - (intOf iv).toNat)
  case atStart => exact ⟨0, by omega, rfl, HP0, Lib.hid (grown_refl _ _)⟩
  case round =>
    obtain ⟨q, hq, rfl, HP, HG⟩ := hrel
    clear HP0
    by_cases hlt : q < gone.length
    · obtain ⟨x, hx⟩ : ∃ x, gone[q]? = some x := ⟨_, List.getElem?_eq_getElem hlt⟩
      obtain ⟨g, o, c1, hv1, ka0, ka1, ka2, ka3, ka4, ka5, ka6, ka7, ka8, ka9⟩ := en_cells (HR.out wr HG.out) hx
      injection hv1 with e1 e2 e3
      subst e1 e3
      have hgx := HGd.out x (List.mem_of_getElem? hx)
      have hs0 := hgx.s0
      have he1 := hgx.e1
      have hlx := hgx.lt
      have hB := EnB.new wr x
      have ga := World.grownBy_alloc wr (.cells #[.int .i64 x.s, .int .i64 x.e, .int .i64 x.f, .int .i64 x.o, .bool x.sh, .int .i64 x.p, .int .i64 x.m, .int .i64 x.i, .int .i64 x.a, .bool x.wi] 50) none
      have HX := Lib.hid hx
      have HPa := Lib.hid (HP.out.ch (R := noRo) (Ch.grown ga) (no_ro _) (no_ro _) (no_ro _) (no_ro _))
      have HGa := Lib.hid (grown_then HG.out ga)
      have HB := Lib.hid hB
      have k1 := hB.at.c1
      have k0 := hB.at.c0
      have HGw := Lib.hid ga
      clear hB ga hx hgx HP HG
      go_wp2_with fail
      generalize hwb : wr.alloc (.cells #[.int .i64 x.s, .int .i64 x.e, .int .i64 x.f, .int .i64 x.o, .bool x.sh, .int .i64 x.p, .int .i64 x.m, .int .i64 x.i, .int .i64 x.a, .bool x.wi] 50) = wb at *
      clear hwb
      generalize wr.heap.size = y at *
      have HP1 := Lib.hid (show PAt wb kd t G id ι ⟨p.L, delPg (forgetP p.A (gone.take q)) x.s x.s⟩ by rw [delPg_none]; exact HPa.out)
      go_loopw [6] (fun pv wx => ∃ pg : Int, x.s ≤ pg ∧ pg ≤ x.e ∧ pv = .int .i64 pg ∧ Hid (PAt wx kd t G id ι ⟨p.L, delPg (forgetP p.A (gone.take q)) x.s pg⟩) ∧ Hid (EnB wx y x) ∧ Hid (w.grownBy wx (some G.sm))) (fun pv _ => (x.e - intOf pv).toNat)
      case atStart => exact ⟨x.s, by omega, by omega, rfl, HP1, HB, HGa⟩
      case round =>
        obtain ⟨pg, hp0, hp1, rfl, HP2, HB2, HG2⟩ := hrel
        clear HP1 HPa HB HGa HGw k0 k1 ka0 ka1 ka2 ka3 ka4 ka5 ka6 ka7 ka8 ka9
        have k1 := HB2.out.at.c1
        by_cases hlt2 : pg < x.e
        · have c1 := HP2.out.at1
          obtain ⟨w9, hdel, h9, t9⟩ := HP2.out.sm.del lawsS (x := pg) (okW_of ⟨by omega, by omega⟩) 0
          rw [drop_map (fun _ a => .pointer (some ⟨ι a, 0, none⟩)), delPg_next _ hp0] at h9
          have hP9 := HP2.out.slots t9.grown h9
          have HP9 := Lib.hid hP9
          have HB9 := Lib.hid (HB2.out.keep HP2.out t9.grown)
          have HG9 := Lib.hid (grown_same HG2.out t9.grown)
          rw [show kvI pg = Value.int .i64 pg from rfl] at hdel
          clear h9 hP9 t9 HP2 HB2 HG2
          go_wp2_with fail
          go_roundw
          case rel => exact ⟨pg + 1, by omega, by omega, by go_num, HP9, HB9, HG9⟩
          case measure => simp [intOf]; omega
        · obtain rfl : pg = x.e := by omega
          have HPn := Lib.hid (show PAt wr kd t G id ι ⟨p.L, forgetP p.A (gone.take (q + 1))⟩ by rw [← forgetP_next _ HX.out]; exact HP2.out)
          clear HP2 HB2
          go_wp2_with fail
          go_roundw
          case rel => exact ⟨q + 1, by omega, by go_num, HPn, HG2⟩
          case measure => simp [intOf]; omega
    · obtain rfl : q = gone.length := by omega
      rw [List.take_length] at HP
      go_wp2_with fail
      go_end0
      exact ⟨rfl, HP.out, HG.out⟩
end
end Go.Proofs.YtefiiooibbkffaaGreat

namespace Go.Proofs.YtefiiooibbkffaaGreat
open Go.ChangeShapes Go.WideShapes Go.ChangeAt Go.RowKit Go.Deep Go.Sort
set_option linter.unusedVariables false
set_option linter.unusedSimpArgs false

def inOne (L : List En) (f pg : Int) : Bool := match atV L pg with | some e => decide (e.f = f) | none => false
theorem isIn_any (ps : List (Int × Pr)) (f pg : Int) : isInF ps f pg = ps.any fun q => inOne q.2.L f pg := rfl
section
variable {w w' : World} {kd : Nat → Ro} {t r : Nat} {h : Gh} {S : Fl}
set_option maxRecDepth 100000 in
set_option maxHeartbeats 4000000 in
theorem isIn_ok (k : FW w kd t r h S) (hok : SOk S) (f pg : Int) :
    Calls Tryz.prog 155 #[.pointer (some ⟨r, 0, none⟩), .int .i64 f, .int .i64 pg] w fun e w' => e = .returned (.bool (isInF S.ps f pg)) ∧ w.grownBy w' none := by
  obtain ⟨d, hd⟩ : ∃ d, isInF S.ps f pg = d := ⟨_, rfl⟩
  rw [hd]
  have hpl := hok.pl
  have hio := hok.io
  obtain ⟨E, hown, hperm⟩ := k.pm.pm.own
  have c0 := k.hw.at.1
  have HM := Lib.hid k.pm.pm
  have HE := Lib.hid hperm
  have HK := Lib.hid k
  have HOk := Lib.hid hok
  have HD := Lib.hid hd
  have hN : ((S.ps.map (·.1)).map fun id => (id, Value.pointer (some ⟨(h.g id).b, 0, none⟩))).length = S.ps.length := by simp
  rw [hN] at hown
  have HIo := Lib.hid hio
  clear k hok hperm hd hN hio
  go_enter Tryz.func155, Tryz.ntmps155
  go_wp2_with (at_range; refine wpList_range_own _ rfl _ 52 rfl 3 68 lawsP.keyed lawsP.und heldR h.pm S.ps.length _ rfl hown ?_; intro w0 hrg0 hg0 hs0)
  go_frame
  have HH0 := Lib.hid (show ∀ q, q ∈ S.ps → Maps.has (DataW.map E) (klI q.1) = true from fun q hq => (has_iff HM.out HE.out lawsP (okW_of (HIo.out q hq))).2 ⟨_, List.mem_map.2 ⟨q.1, List.mem_map.2 ⟨q, hq, rfl⟩, rfl⟩, rfl⟩)
  have HR0 := Lib.hid hrg0
  have HG0 := Lib.hid hg0
  clear hrg0 hg0 hs0 hown c0
  go_loopw [6] (fun rv wr => rv = .bool false ∧ ∃ (left : Lit → Bool) (cnt : Nat), Hid (wr.ranges Tryz.prog 3 heldR h.pm w.heap.size S.ps.length (.map E) left cnt) ∧ Hid (∀ q, q ∈ S.ps → left (klI q.1) = false → inOne q.2.L f pg = false) ∧ Hid (w.grownBy wr none)) (fun _ wr => wr.rangeLeft h.pm w.heap.size)
  case atStart => exact ⟨rfl, _, _, HR0, Lib.hid (fun q hq hl => by rw [HH0.out q hq] at hl; cases hl), HG0⟩
  case round =>
    clear HR0 HG0 HH0
    obtain ⟨rfl, left, cnt, HRg, HL, HG⟩ := hrel
    have hrg := HRg.out
    go_wp2_with (at_next; refine wpList_next_ranges _ rfl _ rfl 3 lawsP.keyed heldR kvI id (fun key kl hk => by obtain ⟨x, hx, _⟩ := Maps.keyOf_int_inv Tryz.underlying3 hk; exact ⟨x, hx⟩) (fun v y hv => ⟨v, rfl⟩) h.pm w.heap.size S.ps.length (.map E) left cnt rfl hrg ?_ ?_)
    · intro hc0 hl0
      have HT := Lib.hid (show d = false by
        rw [← HD.out, isIn_any, List.any_eq_false]
        intro q hq
        rw [HL.out q hq (hl0 _)]
        simp)
      go_wp2_with fail
      go_ret
      exact ⟨by rw [HT.out]; rfl, HG.out⟩
    · intro x c kl ya yb w1 cnt1 hkey hlk hRv hat hrg1 hlt hg1 hs1 hen
      obtain ⟨x', ex, rfl, hwx⟩ := Maps.keyOf_int_inv Tryz.underlying3 hkey
      have ex2 : x = x' := by unfold kvI at ex; injection ex
      subst ex2
      have hin : ∃ q, q ∈ S.ps ∧ q.1 = x := by
        by_cases hno : ∀ n, n ∈ (S.ps.map (·.1)).map (fun id => (id, Value.pointer (some ⟨(h.g id).b, 0, none⟩))) → n.1 ≠ x
        · exfalso
          have k1 := (hat (.held (.bool true))).trans (hat (.held (.bool false))).symm
          rw [show Lit.int .i64 x = klI x from rfl, at_no HM.out lawsP HE.out hwx hno, at_no HM.out lawsP HE.out hwx hno] at k1
          injection k1 with k2
          injection k2 with k3
          cases k3
        · obtain ⟨n, hn⟩ := Classical.not_forall.1 hno
          obtain ⟨hn1, hn2⟩ := Classical.not_imp.1 hn
          have hn3 : n.1 = x := Classical.not_not.1 hn2
          obtain ⟨y, hy, rfl⟩ := List.mem_map.1 hn1
          obtain ⟨q, hq, rfl⟩ := List.mem_map.1 hy
          exact ⟨q, hq, hn3⟩
      obtain ⟨⟨x2, p⟩, hq, hqx⟩ := hin
      simp only at hqx
      subst hqx
      have hya := hat (.held (.pointer none))
      rw [show Lit.int .i64 x2 = klI x2 from rfl, at_yes HM.out lawsP HE.out (x := x2) (a := .pointer (some ⟨(h.g x2).b, 0, none⟩)) (List.mem_map.2 ⟨x2, List.mem_map.2 ⟨_, hq, rfl⟩, rfl⟩)] at hya
      subst hya
      have hc : c = .pointer (some ⟨(h.g x2).b, 0, none⟩) := by
        unfold heldR at hRv
        simp at hRv
        exact hRv.1
      subst hc
      have hG1 := grown_at HG.out hg1 (Nat.le_refl _)
      have hV := (HK.out.vw HOk.out (geA_mem HK.out.bw.nd hq)).grow hG1
      have b0 := hV.pa.at0
      obtain ⟨ex1, hx1⟩ : ∃ e, atE p.L pg = e := ⟨_, rfl⟩
      obtain ⟨dd, hdd⟩ : ∃ dd, (atV p.L pg).isSome = dd := ⟨_, rfl⟩
      have HA := Lib.hid (hV.at_ok pg ex1 hx1 dd hdd)
      have hone : inOne p.L f pg = (dd && decide (ex1.f = f)) := by
        unfold inOne
        rw [← hdd, ← hx1]
        unfold atE
        cases atV p.L pg <;> simp
      have HOne := Lib.hid hone
      have HRg1 := Lib.hid hrg1
      have HG1 := Lib.hid hG1
      have HQ := Lib.hid hq
      have HNx := Lib.hid (show inOne p.L f pg = false → ∀ q, q ∈ S.ps → (left (klI q.1) && !(klI q.1).sameKey (klI x2)) = false → inOne q.2.L f pg = false from fun h0 q hq2 hlf => by
        by_cases e : q.1 = x2
        · have h1 := geA_mem HK.out.bw.nd (show (q.1, q.2) ∈ S.ps from hq2)
          rw [e, geA_mem HK.out.bw.nd HQ.out] at h1
          rw [← Option.some.inj h1]
          exact h0
        · have h2 : (klI q.1).sameKey (klI x2) = false := by
            cases hb : (klI q.1).sameKey (klI x2) with
            | false => rfl
            | true => exact absurd (lawsP.inj _ _ (okW_of (HIo.out q hq2)) (okW_of (HIo.out _ HQ.out)) (WideAt.sameKey_eq hb)) e
          rw [h2] at hlf
          simp at hlf
          exact HL.out q hq2 hlf)
      have hms : w1.rangeLeft h.pm w.heap.size < wr.rangeLeft h.pm w.heap.size := by rw [hrg1.left_eq, hrg.left_eq]; exact hlt
      clear hrg hrg1 hG1 hat hRv hkey hlk hg1 hs1 hq HRg HG ex hV hone hx1 hdd hwx
      go_wp2_with fail
      refine HA.out.mono ?_
      rintro e w5 ⟨rfl, g5⟩
      have gA := grown_trans g5 (World.grownBy_alloc w5 (.cells #[.int .i64 ex1.s, .int .i64 ex1.e, .int .i64 ex1.f, .int .i64 ex1.o, .bool ex1.sh, .int .i64 ex1.p, .int .i64 ex1.m, .int .i64 ex1.i, .int .i64 ex1.a, .bool ex1.wi] 50) none)
      have HG6 := Lib.hid (grown_trans HG1.out gA)
      have hR6 := HRg1.out.kept gA (by simp) (by simp)
      have HR6 := Lib.hid hR6
      have hms6 : (w5.alloc (.cells #[.int .i64 ex1.s, .int .i64 ex1.e, .int .i64 ex1.f, .int .i64 ex1.o, .bool ex1.sh, .int .i64 ex1.p, .int .i64 ex1.m, .int .i64 ex1.i, .int .i64 ex1.a, .bool ex1.wi] 50)).rangeLeft h.pm w.heap.size < wr.rangeLeft h.pm w.heap.size := by rw [hR6.left_eq, ← HRg1.out.left_eq]; exact hms
      have HMs := Lib.hid hms6
      clear g5 gA hR6 hms6 hms HRg1 HG1
      cases dd with
      | false =>
        have HNx2 := Lib.hid (HNx.out (by rw [HOne.out]; rfl))
        clear HNx HOne
        go_wp2_with fail
        go_roundw
        case rel => exact ⟨rfl, _, cnt1, HR6, HNx2, HG6⟩
        case measure => exact HMs.out
      | true =>
        cases hdc : decide (ex1.f = f) with
        | false =>
          have bq : (ex1.f == f) = false := by simpa using hdc
          have HNx2 := Lib.hid (HNx.out (by rw [HOne.out, hdc]; rfl))
          clear HNx HOne hdc
          go_wp2_with fail
          go_roundw
          case rel => exact ⟨rfl, _, cnt1, HR6, HNx2, HG6⟩
          case measure => exact HMs.out
        | true =>
          have bq : (ex1.f == f) = true := by simpa using hdc
          have HT := Lib.hid (show d = true by
            rw [← HD.out, isIn_any, List.any_eq_true]
            exact ⟨_, HQ.out, by rw [HOne.out, hdc]; rfl⟩)
          clear HNx HOne hdc
          go_wp2_with fail
          go_ret
          exact ⟨by rw [HT.out]; rfl, HG6.out⟩
end
end Go.Proofs.YtefiiooibbkffaaGreat

namespace Go.Proofs.YtefiiooibbkffaaGreat
open Go.ChangeShapes Go.WideShapes Go.ChangeAt Go.RowKit Go.Deep Go.Sort
set_option linter.unusedVariables false
set_option linter.unusedSimpArgs false

/-- What one entry that went drops, up to below a page. -/
def goneTo (ps : List (Int × Pr)) (x : En) (pg : Int) (k : Int × Int) : Bool := decide (1000 < x.f ∧ k.1 = x.f ∧ x.o ≤ k.2 ∧ k.2 < x.o + (pg - x.s)) && !isInF ps x.f (k.2 - x.o + x.s)
def lessF (F : List ((Int × Int) × List UInt8)) (ps : List (Int × Pr)) (x : En) (pg : Int) : List ((Int × Int) × List UInt8) := F.filter fun n => !goneTo ps x pg n.1
theorem lessF_none (F : List ((Int × Int) × List UInt8)) (ps : List (Int × Pr)) (x : En) : lessF F ps x x.s = F := List.filter_eq_self.2 fun n _ => by
  unfold goneTo
  rw [decide_eq_false (by omega)]
  rfl
theorem lessF_low (F : List ((Int × Int) × List UInt8)) (ps : List (Int × Pr)) {x : En} (h : ¬ 1000 < x.f) (pg : Int) : lessF F ps x pg = F := List.filter_eq_self.2 fun n _ => by
  unfold goneTo
  rw [decide_eq_false (by omega)]
  rfl
theorem lessF_next (F : List ((Int × Int) × List UInt8)) (ps : List (Int × Pr)) {x : En} {pg : Int} (h0 : x.s ≤ pg) (hf : 1000 < x.f) : lessF F ps x (pg + 1) = if isInF ps x.f pg = true then lessF F ps x pg else drA (lessF F ps x pg) (spotF x pg) := by
  have key : ∀ n : Int × Int, goneTo ps x (pg + 1) n = (goneTo ps x pg n || (decide (n = spotF x pg) && !isInF ps x.f pg)) := fun n => by
    unfold goneTo
    by_cases e : n = spotF x pg
    · have e1 : n.1 = x.f := by rw [e]; rfl
      have e2 : n.2 = x.o + pg - x.s := by rw [e]; rfl
      rw [show n.2 - x.o + x.s = pg by omega, decide_eq_true e, decide_eq_true (show 1000 < x.f ∧ n.1 = x.f ∧ x.o ≤ n.2 ∧ n.2 < x.o + (pg + 1 - x.s) by omega), decide_eq_false (show ¬ (1000 < x.f ∧ n.1 = x.f ∧ x.o ≤ n.2 ∧ n.2 < x.o + (pg - x.s)) by omega)]
      simp
    · rw [decide_eq_false e, Bool.false_and, Bool.or_false]
      congr 1
      rw [decide_eq_decide]
      constructor
      · rintro ⟨a, b, c, d⟩
        refine ⟨a, b, c, ?_⟩
        by_cases e2 : n.2 = x.o + pg - x.s
        · exact (e (Prod.ext b e2)).elim
        · omega
      · rintro ⟨a, b, c, d⟩
        exact ⟨a, b, c, by omega⟩
  unfold lessF drA
  by_cases hi : isInF ps x.f pg = true
  · rw [if_pos hi]
    refine List.filter_congr fun n _ => ?_
    rw [key, hi]
    simp
  · rw [if_neg hi, List.filter_filter]
    refine List.filter_congr fun n _ => ?_
    rw [key, Bool.eq_false_iff.2 hi]
    simp [Bool.and_comm]
theorem less_all (ps : List (Int × Pr)) (x : En) (k : Int × Int) : goneTo ps x x.e k = goneF ps [x] k := by
  unfold goneTo goneF
  simp
def Fl.fTo (S : Fl) (gone : List En) : List ((Int × Int) × List UInt8) := S.F.filter fun n => !goneF S.ps gone n.1
theorem fTo_nil (S : Fl) : S.fTo [] = S.F := List.filter_eq_self.2 fun n _ => by simp [goneF]
theorem fTo_next (S : Fl) {gone : List En} {q : Nat} {x : En} (hx : gone[q]? = some x) : lessF (S.fTo (gone.take q)) S.ps x x.e = S.fTo (gone.take (q + 1)) := by
  unfold lessF Fl.fTo
  rw [List.filter_filter, takel_at hx]
  refine List.filter_congr fun n _ => ?_
  rw [less_all]
  unfold goneF
  rw [List.any_append, Bool.not_or, Bool.and_comm]
theorem less_sub {F : List ((Int × Int) × List UInt8)} {ps : List (Int × Pr)} {x : En} {pg : Int} : ∀ n, n ∈ lessF F ps x pg → n ∈ F := fun n hn => (List.mem_filter.1 hn).1
theorem drA_none {K α : Type} [DecidableEq K] {N : List (K × α)} {x : K} (h : geA N x = none) : drA N x = N := List.filter_eq_self.2 fun n hn => by simpa using geA_none h n hn
section
variable {w w' : World} {kd : Nat → Ro} {t r : Nat} {h : Gh} {S : Fl}
def Fl.withF (S : Fl) (F : List ((Int × Int) × List UInt8)) : Fl := { S with F := F }
theorem SOk.less (o : SOk S) {F : List ((Int × Int) × List UInt8)} (hl : F.length ≤ S.F.length) : SOk (S.withF F) := ⟨o.hl, o.hz, o.pi, o.nx, Nat.le_trans hl o.fl, o.r0, o.r1, o.pl, o.io, o.hh⟩
theorem FW.less (k : FW w kd t r h S) {F' : List ((Int × Int) × List UInt8)} (hs : ∀ n, n ∈ F' → n ∈ S.F) (hg : w.grownBy w' (some h.fm))
    (hm : MapV Tryz.prog 153 spotL okK w' h.fm (F'.map fun n => (n.1, h.fv n.1))) : FW w' kd t r h (S.withF F') := by
  obtain ⟨h1, h2⟩ := k.hw.sheets_less hs hg hm
  exact ⟨h1, k.pm.ch h2 (by simp), k.bw.ch h2 (by simp) (by simp) (by simp) (by simp) (by simp) (by simp)⟩
theorem EnB.keepF {y : Nat} {x : En} (hb : EnB w y x) (k : FW w kd t r h S) (hg : w.grownBy w' (some h.fm)) : EnB w' y x := (hg.block _ hb.lt fun e => ne_map hb k.hw.fm (Option.some.inj e)).trans hb
theorem withF_F (S : Fl) (F : List ((Int × Int) × List UInt8)) : (S.withF F).F = F := rfl
set_option maxRecDepth 100000 in
set_option maxHeartbeats 8000000 in
theorem wforget_ok (k : FW w kd t r h S) (hok : SOk S) {s : Option Addr} {c : Nat} {gone : List En} (hr : ∀ W, w.grownBy W (some h.fm) → ERow W (.slice s gone.length c) gone) (hl : gone.length ≤ 100000) (hgd : ∀ x, x ∈ gone → GoodE x ∧ x.f ≤ 1000000000) :
    Calls Tryz.prog 118 #[.pointer (some ⟨r, 0, none⟩), .slice s gone.length c] w fun e w' => e = .returned (.tuple #[]) ∧ FW w' kd t r h (S.forget gone) ∧ w.grownBy w' (some h.fm) := by
  have HR := Lib.hid hr
  have HGd := Lib.hid hgd
  have HOk := Lib.hid hok
  have HP0 := Lib.hid (show FW w kd t r h (S.withF (S.fTo (gone.take 0))) by rw [List.take_zero, fTo_nil]; exact k)
  clear hr hgd k hok
  go_enter Tryz.func118, Tryz.ntmps118
  go_wp2_with fail
  go_loopw [12] (fun iv wr => ∃ q : Nat, q ≤ gone.length ∧ iv = .int .i64 q ∧ Hid (FW wr kd t r h (S.withF (S.fTo (gone.take q)))) ∧ Hid (w.grownBy wr (some h.fm))) (fun iv _ => gone.length - (intOf iv).toNat)
  case atStart => exact ⟨0, by omega, rfl, HP0, Lib.hid (grown_refl _ _)⟩
  case round =>
    obtain ⟨q, hq, rfl, HP, HG⟩ := hrel
    clear HP0
    by_cases hlt : q < gone.length
    · obtain ⟨x, hx⟩ : ∃ x, gone[q]? = some x := ⟨_, List.getElem?_eq_getElem hlt⟩
      obtain ⟨g, o, c1, hv1, ka0, ka1, ka2, ka3, ka4, ka5, ka6, ka7, ka8, ka9⟩ := en_cells (HR.out wr HG.out) hx
      injection hv1 with e1 e2 e3
      subst e1 e3
      have hgx := (HGd.out x (List.mem_of_getElem? hx)).1
      have HGx := Lib.hid (HGd.out x (List.mem_of_getElem? hx))
      have hs0 := hgx.s0
      have he1 := hgx.e1
      have hlx := hgx.lt
      have hB := EnB.new wr x
      have ga := World.grownBy_alloc wr (.cells #[.int .i64 x.s, .int .i64 x.e, .int .i64 x.f, .int .i64 x.o, .bool x.sh, .int .i64 x.p, .int .i64 x.m, .int .i64 x.i, .int .i64 x.a, .bool x.wi] 50) none
      have HX := Lib.hid hx
      have HPa := Lib.hid (HP.out.grow ga)
      have HGa := Lib.hid (grown_then HG.out ga)
      have HB := Lib.hid hB
      have k0 := hB.at.c0
      clear hB ga hx hgx HP HG
      go_wp2_with fail
      generalize hwb : wr.alloc (.cells #[.int .i64 x.s, .int .i64 x.e, .int .i64 x.f, .int .i64 x.o, .bool x.sh, .int .i64 x.p, .int .i64 x.m, .int .i64 x.i, .int .i64 x.a, .bool x.wi] 50) = wb at *
      clear hwb
      generalize wr.heap.size = y at *
      have HP1 := Lib.hid (show FW wb kd t r h (S.withF (lessF (S.fTo (gone.take q)) S.ps x x.s)) by rw [lessF_none]; exact HPa.out)
      go_loopw [6] (fun pv wx => ∃ pg : Int, x.s ≤ pg ∧ pg ≤ x.e ∧ pv = .int .i64 pg ∧ Hid (FW wx kd t r h (S.withF (lessF (S.fTo (gone.take q)) S.ps x pg))) ∧ Hid (EnB wx y x) ∧ Hid (w.grownBy wx (some h.fm))) (fun pv _ => (x.e - intOf pv).toNat)
      case atStart => exact ⟨x.s, by omega, by omega, rfl, HP1, HB, HGa⟩
      case round =>
        obtain ⟨pg, hp0, hp1, rfl, HP2, HB2, HG2⟩ := hrel
        clear HP1 HPa HB HGa k0 ka0 ka1 ka2 ka3 ka4 ka5 ka6 ka7 ka8 ka9
        obtain ⟨e0, e1, e2, e3, e4, e5, e6, e7, e8, e9⟩ := HB2.out.all
        by_cases hf : 1000 < x.f
        · have bf : decide (x.f > 1000) = true := decide_eq_true hf
          by_cases hlt2 : pg < x.e
          · have hPg : PgE x pg := ⟨HGx.out.1, HGx.out.2, hp0, hlt2⟩
            have HPg := Lib.hid hPg
            obtain ⟨n1, n2, n3, n4, n5, n6, n7, n8⟩ := hPg.spot
            have HSp := Lib.hid (spotOf_ok wr x pg n3 n4 n5 n6 n7 n8)
            have HN := Lib.hid (And.intro n1 n2)
            clear hPg n1 n2 n3 n4 n5 n6 n7 n8
            obtain ⟨F0, hF0⟩ : ∃ F0, lessF (S.fTo (gone.take q)) S.ps x pg = F0 := ⟨_, rfl⟩
            have HNext := Lib.hid (lessF_next (S.fTo (gone.take q)) S.ps hp0 hf)
            rw [hF0] at HP2 HNext
            have hFl : F0.length ≤ S.F.length := by
              rw [← hF0]
              exact Nat.le_trans (List.length_filter_le _ _) (List.length_filter_le _ _)
            have HOF := Lib.hid (HOk.out.less hFl)
            clear hF0 hFl e0 e3 e4 e5 e6 e7 e8 e9
            obtain ⟨e0, -, -, e3, e4, e5, e6, e7, e8, e9⟩ := HB2.out.all
            go_wp2_with fail
            refine HSp.out.mono ?_
            rintro e w5 ⟨rfl, g5⟩
            have gz := grown_trans g5 (World.grownBy_alloc w5 (.cells #[.int .i64 (spotF x pg).1, .int .i64 (spotF x pg).2] 153) none)
            have bz := heap_alloc_new w5 (.cells #[.int .i64 (spotF x pg).1, .int .i64 (spotF x pg).2] 153)
            have HKz := Lib.hid (HP2.out.grow gz)
            have HGz := Lib.hid (grown_then HG2.out gz)
            have HBz := Lib.hid (HB2.out.grow gz)
            obtain ⟨f, hf1⟩ : ∃ f, (spotF x pg).1 = f := ⟨_, rfl⟩
            obtain ⟨n, hn1⟩ : ∃ n, (spotF x pg).2 = n := ⟨_, rfl⟩
            have HSpE := Lib.hid (show spotF x pg = (f, n) by rw [← hf1, ← hn1])
            rw [hf1, hn1] at HN bz HKz HGz HBz
            clear g5 gz HSp HP2 HG2 HB2 e0 e1 e2 e3 e4 e5 e6 e7 e8 e9
            go_wp2_with fail
            try simp only [hf1, hn1]
            clear hf1 hn1
            generalize hwz : w5.alloc (.cells #[.int .i64 f, .int .i64 n] 153) = wz at *
            clear hwz
            generalize w5.heap.size = z at *
            have z0 : wz.cell? ⟨z, 0, none⟩ = some (.int .i64 f) := by rw [cell_of_row _ _ _ _ _ _ bz]; rfl
            have z1 : wz.cell? ⟨z, 1, none⟩ = some (.int .i64 n) := by rw [cell_of_row _ _ _ _ _ _ bz]; rfl
            have k2 := HKz.out.hw.at.2.2.1
            have hlk := fun (d : Nat) (os : Array Obj) => (HKz.out.grow (regrown_grown wz d os)).hw.look2 HN.out.1 HN.out.2
            rw [withF_F] at hlk
            obtain ⟨u, hu⟩ : ∃ u, shP h F0 (f, n) = u := ⟨_, rfl⟩
            obtain ⟨d, hd⟩ : ∃ d, (geA F0 (f, n)).isSome = d := ⟨_, rfl⟩
            rw [hu, hd] at hlk
            have HD := Lib.hid hd
            have HBk := Lib.hid bz
            have r0 := cell_regrown z0
            have r1 := cell_regrown z1
            have r2 := cell_regrown k2
            clear hu hd bz
            refine wp_region_quiet_below (by kernel_rfl) (by kernel_rfl) ?_
            repeat (go_big_quiet_step (first | fail))
            refine wpQuiet_nil ?_
            intro _ hw'
            obtain ⟨⟨dq, osq⟩, hw''⟩ := hw'
            subst hw''
            have HQ := Lib.hid (regrown_grown wz dq osq)
            clear hlk r0 r1 r2
            generalize grow (redrawn wz dq) osq = w3 at *
            have HK3 := Lib.hid (HKz.out.grow HQ.out)
            have HG3 := Lib.hid (grown_then HGz.out HQ.out)
            have HB3 := Lib.hid (HBz.out.grow HQ.out)
            have hz3 : w3.heap[z]? = some (.cells #[.int .i64 f, .int .i64 n] 153 (0, 0)) := (HQ.out.block _ (heap_lt HBk.out) (by simp)).trans HBk.out
            have HZ3 := Lib.hid hz3
            clear z0 z1 k2 HKz HGz HBz HBk hz3 HQ
            rw [HSpE.out] at HNext
            cases d with
            | false =>
              have hno : geA F0 (f, n) = none := by
                have := HD.out
                cases e : geA F0 (f, n) with
                | none => rfl
                | some v => rw [e] at this; cases this
              have HPn := Lib.hid (show FW w3 kd t r h (S.withF (lessF (S.fTo (gone.take q)) S.ps x (pg + 1))) by
                rw [HNext.out, drA_none hno, ite_self]
                exact HK3.out)
              clear HK3 HNext hno HZ3
              go_wp2_with fail
              go_roundw
              case rel => exact ⟨pg + 1, by omega, by omega, by go_num, HPn, HB3, HG3⟩
              case measure => simp [intOf]; omega
            | true =>
              obtain ⟨b, hb⟩ : ∃ b, isInF S.ps x.f pg = b := ⟨_, rfl⟩
              have hI := isIn_ok HK3.out HOF.out x.f pg
              rw [show (S.withF F0).ps = S.ps from rfl, hb] at hI
              have HI := Lib.hid hI
              rw [hb] at HNext
              have e2 := HB3.out.all.2.2.1
              clear hI hb
              cases b with
              | true =>
                go_wp2_with fail
                refine HI.out.mono ?_
                rintro e w4 ⟨rfl, g4⟩
                have HPn := Lib.hid (show FW w4 kd t r h (S.withF (lessF (S.fTo (gone.take q)) S.ps x (pg + 1))) by
                  rw [HNext.out]
                  simp only [if_true]
                  exact HK3.out.grow g4)
                have HB4 := Lib.hid (HB3.out.grow g4)
                have HG4 := Lib.hid (grown_then HG3.out g4)
                clear HK3 HNext HZ3 HB3 HG3 g4 e2 HI
                go_wp2_with fail
                go_roundw
                case rel => exact ⟨pg + 1, by omega, by omega, by go_num, HPn, HB4, HG4⟩
                case measure => simp [intOf]; omega
              | false =>
                go_wp2_with fail
                refine HI.out.mono ?_
                rintro e w4 ⟨rfl, g4⟩
                have k4 := (HK3.out.grow g4).grow (grown_drew1 w4)
                have hz4 : w4.drew.heap[z]? = some (.cells #[.int .i64 f, .int .i64 n] 153 (0, 0)) := (g4.block _ (heap_lt HZ3.out) (by simp)).trans HZ3.out
                obtain ⟨w9, hdel, h9, t9⟩ := k4.hw.fm.del lawsF (x := (f, n)) ⟨HN.out.1, HN.out.2⟩ 0
                rw [drop_map (fun k _ => h.fv k), withF_F] at h9
                have k9 := k4.less (F' := drA F0 (f, n)) (fun m hm => (List.mem_filter.1 hm).1) t9.grown h9
                have hz9 : w9.heap[z]? = some (.cells #[.int .i64 f, .int .i64 n] 153 (0, 0)) := (t9.grown.block _ (heap_lt hz4) fun e => ne_map hz4 k4.hw.fm (Option.some.inj e)).trans hz4
                have hk0 : w4.drew.cell? ⟨r, 2, none⟩ = some (.map (some h.fm)) ∧ w4.drew.cell? ⟨z, 0, none⟩ = some (.int .i64 f) ∧ w4.drew.cell? ⟨z, 1, none⟩ = some (.int .i64 n) := ⟨k4.hw.at.2.2.1, by rw [cell_of_row _ _ _ _ _ _ hz4]; rfl, by rw [cell_of_row _ _ _ _ _ _ hz4]; rfl⟩
                have hk9 : w9.cell? ⟨r, 2, none⟩ = some (.map (some h.fm)) ∧ w9.cell? ⟨z, 0, none⟩ = some (.int .i64 f) ∧ w9.cell? ⟨z, 1, none⟩ = some (.int .i64 n) := ⟨k9.hw.at.2.2.1, by rw [cell_of_row _ _ _ _ _ _ hz9]; rfl, by rw [cell_of_row _ _ _ _ _ _ hz9]; rfl⟩
                have HPn := Lib.hid (show FW w9 kd t r h (S.withF (lessF (S.fTo (gone.take q)) S.ps x (pg + 1))) by
                  rw [HNext.out]
                  simp only [Bool.false_eq_true, if_false]
                  exact k9)
                have HB9 := Lib.hid (((HB3.out.grow g4).grow (grown_drew1 w4)).keepF k4 t9.grown)
                have HG9 := Lib.hid (grown_same (grown_then (grown_then HG3.out g4) (grown_drew1 w4)) t9.grown)
                rw [show spotV (f, n) = .agg #[.int .i64 f, .int .i64 n] from rfl] at hdel
                clear HK3 HNext HZ3 HB3 HG3 g4 e2 HI k4 hz4 h9 k9 hz9 t9
                go_upto_region 9 with fail
                go_region_held3 (fun w7 => w7.cell? ⟨r, 2, none⟩ = some (.map (some h.fm)) ∧ w7.cell? ⟨z, 0, none⟩ = some (.int .i64 f) ∧ w7.cell? ⟨z, 1, none⟩ = some (.int .i64 n)) (first | with_reducible exact hk0 | with_reducible exact hk9 | fail) (fail)
                go_wp2_with fail
                go_roundw
                case rel => exact ⟨pg + 1, by omega, by omega, by go_num, HPn, HB9, HG9⟩
                case measure => simp [intOf]; omega
          · obtain rfl : pg = x.e := by omega
            have HPn := Lib.hid (show FW wr kd t r h (S.withF (S.fTo (gone.take (q + 1)))) by rw [← fTo_next S HX.out]; exact HP2.out)
            clear HP2 HB2
            go_wp2_with fail
            go_roundw
            case rel => exact ⟨q + 1, by omega, by go_num, HPn, HG2⟩
            case measure => simp [intOf]; omega
        · have bf : decide (x.f > 1000) = false := decide_eq_false hf
          have HPn := Lib.hid (show FW wr kd t r h (S.withF (S.fTo (gone.take (q + 1)))) by rw [← fTo_next S HX.out, lessF_low _ _ hf]; have := HP2.out; rw [lessF_low _ _ hf] at this; exact this)
          clear HP2 HB2
          go_wp2_with fail
          go_roundw
          case rel => exact ⟨q + 1, by omega, by go_num, HPn, HG2⟩
          case measure => simp [intOf]; omega
    · obtain rfl : q = gone.length := by omega
      rw [List.take_length] at HP
      go_wp2_with fail
      go_end0
      exact ⟨rfl, HP.out, HG.out⟩
end
end Go.Proofs.YtefiiooibbkffaaGreat

namespace Go.Proofs.YtefiiooibbkffaaGreat
open Go.ChangeShapes Go.WideShapes Go.ChangeAt Go.RowKit Go.Deep Go.Sort
open Go.Maps (Keyed)
set_option linter.unusedVariables false
set_option linter.unusedSimpArgs false

section
variable {w w' : World} {kd : Nat → Ro} {t : Nat} {id : Int} {ι : Nat → Nat} {p : Pr} {g : Int → PG} {sp : Nat → Value} {c : Nat → Option (List UInt8)} {qs : List (Int × Pr)}
def vmRo (t : Nat) (id : Int) (ρ : Ro) : Prop := ρ = .w t (.vm id) ∨ ρ = .w t (.vr id)
def kdV (kd : Nat → Ro) (t : Nat) (id : Int) (v : Value) : Nat → Ro := fun b => if v.ownBlock = some b then .w t (.vr id) else kd b
def gV (g : Int → PG) (id : Int) (v : Value) : Int → PG := fun x => if x = id then ⟨(g id).b, (g id).m, (g id).sm, v⟩ else g x
theorem gV_b (g : Int → PG) (id : Int) (v : Value) (x : Int) : (gV g id v x).b = (g x).b ∧ (gV g id v x).m = (g x).m ∧ (gV g id v x).sm = (g x).sm := by
  unfold gV
  by_cases h : x = id
  · subst h; simp
  · simp [h]
theorem vm_no {t : Nat} {id : Int} {x : Rx} (h1 : x ≠ .vm id) (h2 : x ≠ .vr id) : ¬ vmRo t id (.w t x) := fun h => by
  rcases h with h | h
  · injection h with _ e; exact h1 e
  · injection h with _ e; exact h2 e
theorem vm_sh (t : Nat) (id : Int) : ¬ vmRo t id .sh := fun h => by rcases h with h | h <;> cases h
theorem vm_own {t : Nat} {id : Int} : ∀ ρ, vmRo t id ρ → own t ρ := fun ρ h => by
  rcases h with h | h
  · exact ⟨_, h⟩
  · exact ⟨_, h⟩
/-- A process's entries turn. -/
theorem BW.mapped (k : BW w kd t g ι sp c qs) (hp : geA qs id = some p) {v' : Value} {L' : List En} (hV : VM w' (g id).m v' L') (hN : New w (g id).v v') (hT : Turn ((g id).m :: blkL (g id).v) w w') :
    BW w' (kdV kd t id v') t (gV g id v') ι sp c (setP qs id ⟨L', p.A⟩) ∧ Ch (vmRo t id) kd (kdV kd t id v') w w' := by
  have hP := k.get hp
  have hch : Ch (vmRo t id) kd (kdV kd t id v') w w' := (Ch.turn (kd := kd) hT (R := vmRo t id) fun b hb _ => by
    rcases List.mem_cons.1 hb with rfl | hb
    · exact .inl hP.km
    · exact .inr (hP.kv b (mem_blk.1 hb))).name fun b hb => by
      unfold kdV
      by_cases e : v'.ownBlock = some b
      · rw [if_pos e]
        rcases hN b e with h1 | h1
        · exact (hP.kv b h1).symm
        · omega
      · rw [if_neg e]
  refine ⟨⟨by rw [setP_ids]; exact k.nd, fun q hq => ?_, fun q hq a ha => ?_⟩, hch⟩
  · rcases mem_setP hq with ⟨h1, h2⟩ | rfl
    · have h3 := (k.pr q h2).ch hch (vm_no (by simp) (by simp)) (vm_no (by simpa using h1) (by simp)) (vm_no (by simp) (by simpa using h1)) (vm_no (by simp) (by simp))
      unfold gV
      rw [if_neg h1]
      exact h3
    · have e : gV g id v' id = ⟨(g id).b, (g id).m, (g id).sm, v'⟩ := by unfold gV; rw [if_pos rfl]
      rw [e]
      exact ⟨(hch.block _ (heap_lt hP.hb) (by rw [hP.kb]; exact vm_no (by simp) (by simp))).trans hP.hb, (hch.kd _ (heap_lt hP.hb)).trans hP.kb, hV, (hch.kd _ hP.vm.lt).trans hP.km, fun b hb => by unfold kdV; rw [if_pos hb], hP.sm.kept (hch.block _ hP.sm.lt (by rw [hP.ks]; exact vm_no (by simp) (by simp))), (hch.kd _ hP.sm.lt).trans hP.ks⟩
  · rcases mem_setP hq with ⟨h1, h2⟩ | rfl
    · exact (k.sl q h2 a ha).ch hch (vm_sh _ _) (vm_no (by simp) (by simp))
    · exact (k.sl _ (geA_some hp) a ha).ch hch (vm_sh _ _) (vm_no (by simp) (by simp))
/-- A process has less slots. -/
theorem BW.less (k : BW w kd t g ι sp c qs) (hp : geA qs id = some p) {A' : List (Int × Nat)} (hP : PAt w' kd t (g id) id ι ⟨p.L, A'⟩) (hs : ∀ a, a ∈ A' → a ∈ p.A) (hg : w.grownBy w' (some (g id).sm)) :
    BW w' kd t g ι sp c (setP qs id ⟨p.L, A'⟩) ∧ Ch (fun ρ => ρ = .w t (.sm id)) kd kd w w' := by
  have hch : Ch (fun ρ => ρ = .w t (.sm id)) kd kd w w' := Ch.one hg (k.get hp).ks
  refine ⟨⟨by rw [setP_ids]; exact k.nd, fun q hq => ?_, fun q hq a ha => ?_⟩, hch⟩
  · rcases mem_setP hq with ⟨h1, h2⟩ | rfl
    · exact (k.pr q h2).ch hch (by simp) (by simp) (by simp) (by simpa using h1)
    · exact hP
  · rcases mem_setP hq with ⟨h1, h2⟩ | rfl
    · exact (k.sl q h2 a ha).ch hch (by simp) (by simp)
    · exact (k.sl _ (geA_some hp) a (hs a ha)).ch hch (by simp) (by simp)
end
section
variable {w w' : World} {kd kd' : Nat → Ro} {t r : Nat} {h : Gh} {S : Fl} {id : Int} {p : Pr}
/-- In a world: a process's entries turn. -/
theorem FW.mapped (k : FW w kd t r h S) (hp : geA S.ps id = some p) {v' : Value} {L' : List En} (hV : VM w' (h.g id).m v' L') (hN : New w (h.g id).v v') (hT : Turn ((h.g id).m :: blkL (h.g id).v) w w') :
    FW w' (kdV kd t id v') t r { h with g := gV h.g id v' } { S with ps := setP S.ps id ⟨L', p.A⟩ } ∧ Ch (own t) kd (kdV kd t id v') w w' := by
  obtain ⟨h1, h2⟩ := k.bw.mapped hp hV hN hT
  have h3 := k.hw.ch h2 (vm_sh _ _) (vm_no (by simp) (by simp)) (vm_no (by simp) (by simp)) (vm_no (by simp) (by simp)) (vm_no (by simp) (by simp))
  have h4 := k.pm.ch h2 (vm_no (by simp) (by simp))
  refine ⟨⟨⟨h3.head, h3.kr, h3.sz, h3.kz, h3.fm, h3.kf, h3.fs, h3.lm, h3.kl, h3.ls⟩, ⟨?_, h4.kp⟩, h1⟩, h2.mono vm_own⟩
  have e : (((setP S.ps id ⟨L', p.A⟩).map (·.1)).map fun id' => (id', Value.pointer (some ⟨(gV h.g id v' id').b, 0, none⟩))) = (S.ps.map (·.1)).map fun id' => (id', Value.pointer (some ⟨(h.g id').b, 0, none⟩)) := by
    rw [setP_ids]
    refine List.map_congr_left fun x _ => ?_
    rw [(gV_b h.g id v' x).1]
  show MapV Tryz.prog 3 klI okW w' h.pm (((setP S.ps id ⟨L', p.A⟩).map (·.1)).map fun id' => (id', Value.pointer (some ⟨(gV h.g id v' id').b, 0, none⟩)))
  rw [e]
  exact h4.pm
/-- In a world: a process has less slots. -/
theorem FW.pless (k : FW w kd t r h S) (hp : geA S.ps id = some p) {A' : List (Int × Nat)} (hP : PAt w' kd t (h.g id) id h.ι ⟨p.L, A'⟩) (hs : ∀ a, a ∈ A' → a ∈ p.A) (hg : w.grownBy w' (some (h.g id).sm)) :
    FW w' kd t r h { S with ps := setP S.ps id ⟨p.L, A'⟩ } ∧ Ch (own t) kd kd w w' := by
  obtain ⟨h1, h2⟩ := k.bw.less hp hP hs hg
  exact ⟨⟨k.hw.ch h2 (by simp) (by simp) (by simp) (by simp) (by simp), by simp only [setP_ids]; exact k.pm.ch h2 (by simp), h1⟩, h2.mono own_mono⟩
/-- In a world: the greatest region. -/
theorem FW.reg (k : FW w kd t r h S) (n : Int) : FW (w.setCell ⟨r, 4, none⟩ (.int .i64 n)) kd t r h { S with reg := n } ∧ Ch (own t) kd kd w (w.setCell ⟨r, 4, none⟩ (.int .i64 n)) := by
  have hg := grown_set w r 4 (.int .i64 n)
  have hch : Ch (fun ρ => ρ = .w t .head) kd kd w (w.setCell ⟨r, 4, none⟩ (.int .i64 n)) := Ch.one hg k.hw.kr
  have h1 := heap_setCell_same w r 4 _ _ (.int .i64 n) k.hw.head
  have hne : ∀ b, kd b ≠ .w t .head → some b ≠ some r := fun b hb e => hb (by rw [Option.some.inj e]; exact k.hw.kr)
  refine ⟨⟨⟨h1, k.hw.kr, OwnOf.kept k.hw.sz fun b hb => hg.block b (OwnOf.lt k.hw.sz hb).2 (hne _ (by rw [k.hw.kz b hb]; simp)), k.hw.kz, k.hw.fm.kept (hg.block _ k.hw.fm.lt (hne _ (by rw [k.hw.kf]; simp))), k.hw.kf, fun n hn => (k.hw.fs n hn).ch hch (by simp), k.hw.lm.kept (hg.block _ k.hw.lm.lt (hne _ (by rw [k.hw.kl]; simp))), k.hw.kl, fun n hn => (k.hw.ls n hn).ch hch (by simp)⟩, k.pm.ch hch (by simp), k.bw.ch hch (by simp) (by simp) (by simp) (by simp) (by simp) (by simp)⟩, hch.mono own_mono⟩
end
end Go.Proofs.YtefiiooibbkffaaGreat
