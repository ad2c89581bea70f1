/- Layer 17 (landed): what send does, in the plain model; a slot gets bytes, in a world. Layer 17 (landed): send. Layer 17 (landed): send, walked. Layer 17 (landed): whatever operation is done. Layer 17 (landed): act and Do, whatever the operation. Layer 17 (landed): Byte; what the laws ask and make: Light, world. Layer 17 (landed): the laws' world, behind some operations. Layer 17 (landed): loans, plainly; steps of a law. -/
import Derived.Test.YtefiiooibbkffaaGreatFlMp
import Derived.Test.YtefiiooibbkffaaGreatFlMk
namespace Go.Proofs.YtefiiooibbkffaaGreat
open Go.ChangeShapes Go.WideShapes Go.ChangeAt Go.RowKit Go.Deep Go.Sort
set_option linter.unusedVariables false
set_option linter.unusedSimpArgs false

theorem pagesL_len : ∀ l : List En, (pagesL l).length = sumN17 l
  | [] => rfl
  | x :: r => by
    have ih := pagesL_len r
    unfold pagesL sumN17 at ih ⊢
    rw [List.flatMap_cons, List.length_append, List.length_map, pages_len, ih, List.map_cons, List.sum_cons]
theorem sum_goneLe {l : List En} (h : RF 0 l) (lo hi : Int) : sumE (goneE l lo hi) ≤ sumE l := by
  unfold goneE
  rw [← sum_both l lo hi]
  exact sum_filter _ _ (rf_le (rf_both lo hi h))
theorem mapV_n {l : List En} (h : MapL l) {addr : Int} {x : En} {fixed : Bool} (he : (mapV l addr x fixed).err = 0) : 0 ≤ (mapV l addr x fixed).n ∧ (mapV l addr x fixed).n + (x.e - x.s) ≤ 67108864 := by
  unfold mapV at he ⊢
  by_cases hm : mayB addr x fixed = true
  · rw [if_pos hm] at he ⊢
    obtain ⟨h1, h2, h3⟩ := may_parts hm
    by_cases hf : fixed = true
    · rw [if_pos hf]
      have := range_iff.1 (h2 hf)
      exact ⟨by show 0 ≤ addr; omega, by show addr + _ ≤ _; omega⟩
    · rw [if_neg hf] at he ⊢
      cases ha : spaceE l addr (x.e - x.s) with
      | none => rw [ha] at he; cases he
      | some a =>
        have := free_space h.rf h1.2.1 ha
        exact ⟨this.1, this.2.1⟩
  · rw [if_neg hm] at he
    cases he
/-- What sends have under way. -/
structure SdI (K : Sd) (t2 : Pr) (n5 i : Nat) : Prop where
  pl : K.p.L = t2.L
  al : K.p.A.length ≤ t2.A.length + i
  nx : ∀ a, a ∈ K.p.A → a.2 < K.nx
  mo : n5 ≤ K.nx
theorem SdI.next {K : Sd} {t2 : Pr} {n5 i : Nat} (h : SdI K t2 n5 i) (a : Int) (x : Nat × Option (List UInt8)) : SdI (sendPg a K x) t2 n5 (i + 1) := by
  unfold sendPg
  cases x.2 with
  | none => exact ⟨h.pl, Nat.le_trans h.al (by omega), h.nx, h.mo⟩
  | some b =>
    obtain ⟨s1, s2, s3, s4, s5, s6⟩ := slot_lt (c := K.c) (pg := a + x.1) h.nx
    exact ⟨s4.trans h.pl, Nat.le_trans s5 (by have := h.al; omega), s3, Nat.le_trans h.mo s2⟩
theorem zip_at {α : Type} (l : List α) {i : Nat} {b : α} (h : l[i]? = some b) : ((List.range l.length).zip l)[i]? = some (i, b) := by
  have hi := (List.getElem?_eq_some_iff.1 h).1
  rw [List.getElem?_zip_eq_some]
  exact ⟨by rw [List.getElem?_range hi], h⟩
section
variable {w w5 : World} {kd kd5 : Nat → Ro} {t r : Nat} {h : Gh} {S : Fl} {id : Int} {p : Pr}
theorem FW.slotted (k : FW w kd t r h S) {pg : Int} {ι5 : Nat → Nat} {sp5 : Nat → Value} (hD : SlotD w w5 kd t h.g h.ι h.sp S.c S.nx S.ps id p pg kd5 ι5 sp5) {u : Value} {b : List UInt8} (hS : Sh w kd u (some b)) :
    FW (w5.setCell ⟨ι5 (slotF p S.c S.nx pg).s, 0, none⟩ u) kd5 t r { h with ι := ι5, sp := upd sp5 (slotF p S.c S.nx pg).s u } { S with ps := setP S.ps id (slotF p S.c S.nx pg).p, c := upd (slotF p S.c S.nx pg).c (slotF p S.c S.nx pg).s (some b), nx := (slotF p S.c S.nx pg).nx } ∧ Ch (own t) kd kd5 w (w5.setCell ⟨ι5 (slotF p S.c S.nx pg).s, 0, none⟩ u) := by
  have hhp := heap_setCell_same w5 _ 0 _ _ u hD.hb.hb
  have hch5 := hD.ch
  have hSh5 := (hS.ch hch5 (by simp)).ch (R := fun ρ => ρ = .w t (.sl (slotF p S.c S.nx pg).s)) (Ch.one (grown_set w5 _ 0 u) hD.hb.ks) (by simp)
  obtain ⟨hbw6, hch6⟩ := hD.bw.slot_set (u := u) (b := some b) hhp hD.hb.ks hSh5 (grown_set w5 _ 0 u)
  have hw5 := (k.hw.ch hch5 (by simp) (by simp) (by simp) (by simp) (by simp)).ch hch6 (by simp) (by simp) (by simp) (by simp) (by simp)
  have hpm := (k.pm.ch hch5 (by simp)).ch hch6 (by simp)
  exact ⟨⟨⟨hw5.head, hw5.kr, hw5.sz, hw5.kz, hw5.fm, hw5.kf, hw5.fs, hw5.lm, hw5.kl, hw5.ls⟩, by simp only [setP_ids]; exact ⟨hpm.pm, hpm.kp⟩, hbw6⟩, (hch5.mono own_mono).trans (hch6.mono own_mono)⟩
end
end Go.Proofs.YtefiiooibbkffaaGreat

namespace Go.Proofs.YtefiiooibbkffaaGreat
open Go.ChangeShapes Go.WideShapes Go.ChangeAt Go.RowKit Go.Deep Go.Sort
set_option linter.unusedVariables false
set_option linter.unusedSimpArgs false

section
variable {w w' : World} {kd kd' : Nat → Ro} {t r : Nat} {h : Gh} {S S' : Fl} {id : Int} {p tp : Pr} {j : Nat} {n : Int} {o : FOp}
/-- What send does, step by step. -/
theorem send_no7 (ht : geA S.ps o.to = none) : S.send p o = S.no 7 := by unfold Fl.send; rw [ht]
theorem send_no2 (ht : geA S.ps o.to = some tp) (hm : ¬ mayB3 o.addr o.n = true) : S.send p o = S.no 2 := by unfold Fl.send; rw [ht]; simp only; rw [if_neg hm]
theorem send_noL (ht : geA S.ps o.to = some tp) (hm : mayB3 o.addr o.n = true) (hl : ¬ (S.loadAll p o.addr (o.addr + o.n)).2 = 0) : S.send p o = S.no (S.loadAll p o.addr (o.addr + o.n)).2 := by unfold Fl.send; rw [ht]; simp only; rw [if_pos hm, if_neg hl]
theorem send_noE (ht : geA S.ps o.to = some tp) (hm : mayB3 o.addr o.n = true) (hl : (S.loadAll p o.addr (o.addr + o.n)).2 = 0) (he : ¬ (S.lay o.to tp (layO o.n)).e = 0) : S.send p o = S.no (S.lay o.to tp (layO o.n)).e := by unfold Fl.send; rw [ht]; simp only; rw [if_pos hm, if_pos hl, if_neg he]
def sendK (S5 : Fl) (t2 : Pr) (a : Int) (l : List (Option (List UInt8))) (i : Nat) : Sd := (((List.range l.length).zip l).take i).foldl (sendPg a) ⟨t2, S5.c, S5.nx⟩
def sendSt (S5 : Fl) (id : Int) (K : Sd) : Fl := { S5 with ps := setP S5.ps id K.p, c := K.c, nx := K.nx }
theorem send_all (ht : geA S.ps o.to = some tp) (hm : mayB3 o.addr o.n = true) (hl : (S.loadAll p o.addr (o.addr + o.n)).2 = 0) (he : (S.lay o.to tp (layO o.n)).e = 0) {t2 : Pr} (h2 : geA (S.lay o.to tp (layO o.n)).S.ps o.to = some t2) :
    S.send p o = ⟨sendSt (S.lay o.to tp (layO o.n)).S o.to (sendK (S.lay o.to tp (layO o.n)).S t2 (S.lay o.to tp (layO o.n)).n (S.loadAll p o.addr (o.addr + o.n)).1 (S.loadAll p o.addr (o.addr + o.n)).1.length), (S.lay o.to tp (layO o.n)).n, 0⟩ := by
  unfold Fl.send
  rw [ht]
  simp only
  rw [if_pos hm, if_pos hl, if_pos he, h2]
  unfold sendSt sendK sendF
  simp only
  rw [List.take_of_length_le (by rw [List.length_zip, List.length_range]; omega)]
theorem sendK_next {S5 : Fl} {t2 : Pr} {a : Int} {l : List (Option (List UInt8))} {i : Nat} {b : Option (List UInt8)} (hb : l[i]? = some b) : sendK S5 t2 a l (i + 1) = sendPg a (sendK S5 t2 a l i) (i, b) := by
  unfold sendK
  rw [takel_at (zip_at l hb), List.foldl_append]
  rfl
theorem sendK_inv (S5 : Fl) (t2 : Pr) (a : Int) (l : List (Option (List UInt8))) (h : ∀ a, a ∈ t2.A → a.2 < S5.nx) : ∀ i, i ≤ l.length → SdI (sendK S5 t2 a l i) t2 S5.nx i
  | 0, _ => ⟨rfl, Nat.le_refl _, h, Nat.le_refl _⟩
  | i + 1, hi => by
    obtain ⟨b, hb⟩ : ∃ b, l[i]? = some b := ⟨_, List.getElem?_eq_getElem (by omega)⟩
    rw [sendK_next hb]
    exact (sendK_inv S5 t2 a l h i (by omega)).next a _
/-- What lay makes for a send: an operation of kind 1 would make the same. -/
def layO1 (o : FOp) : FOp := ⟨1, o.to, -1, o.n, 3, false, 0, 0, false, 0, 0, 0, 0, 0⟩
theorem lay_same (S : Fl) (tp : Pr) (o : FOp) : S.lay o.to tp (layO o.n) = S.lay o.to tp (layO1 o) := rfl
theorem sendLay (h : SI S j n) (hp : geA S.ps o.to = some tp) : 
    (∀ e, (S.lay o.to tp (layO o.n)).e = e → e = 0 → ∃ t2, geA (S.lay o.to tp (layO o.n)).S.ps o.to = some t2 ∧ SI (S.lay o.to tp (layO o.n)).S (j + 1) (n + pgO (layO1 o)) ∧ t2.A.length ≤ tp.A.length ∧ 0 ≤ (S.lay o.to tp (layO o.n)).n ∧ (S.lay o.to tp (layO o.n)).n + o.n ≤ 67108864) ∧
    ((mapV tp.L (-1) (layE S.reg (layO o.n)) false).err = 0 → SI (S.did2 o.to tp (mapV tp.L (-1) (layE S.reg (layO o.n)) false) (max S.reg (layE S.reg (layO o.n)).f)) (j + 1) (n + pgO (layO1 o))) := by
  have hno : (decide ((layO1 o).file > 0) && !hasF S.sz (layO1 o).file) = false := by simp [layO1]
  have hno2 : ¬ (decide ((layO o.n).file > 0) && !hasF S.sz (layO o.n).file) = true := by simp [layO]
  have hno3 : ¬ (decide ((layO o.n).file = 0) && decide ((layO o.n).off ≠ 0)) = true := by simp [layO]
  have hg := h.gs
  have key : ∀ he : (mapV tp.L (-1) (layE S.reg (layO o.n)) false).err = 0, _ := fun he => SI.lay (o := layO1 o) h hp (.inl rfl) hno he
  have hw := fun he => SI.went (o := layO1 o) h hp (d := mapV tp.L (-1) (layE S.reg (layO o.n)) false) (m := n + pgO (layO1 o)) (by have := pgO_pos (layO1 o); omega) (key he).1 (reg := max S.reg (layE S.reg (layO o.n)).f) (by have := hg.r0; omega) (by
    have h1 := layE_f (o := layO1 o) h hno
    have h2 := hg.r1
    have h3 : (layE S.reg (layO o.n)).f = (layE S.reg (layO1 o)).f := rfl
    omega)
  refine ⟨fun e h1 h0 => ?_, fun he => (hw he).2⟩
  subst h1
  have he : (mapV tp.L (-1) (layE S.reg (layO o.n)) false).err = 0 := by
    unfold Fl.lay at h0
    rw [if_neg hno2, if_neg hno3] at h0
    by_cases e : (mapV tp.L (layO o.n).addr (layE S.reg (layO o.n)) (layO o.n).fixed).err = 0
    · exact e
    · rw [if_neg e] at h0; exact h0
  have hS : S.lay o.to tp (layO o.n) = ⟨({ S with reg := max S.reg (layE S.reg (layO o.n)).f } : Fl).went o.to tp (mapV tp.L (-1) (layE S.reg (layO o.n)) false), (mapV tp.L (-1) (layE S.reg (layO o.n)) false).n, 0⟩ := by
    unfold Fl.lay
    rw [if_neg hno2, if_neg hno3, if_pos (show (mapV tp.L (layO o.n).addr (layE S.reg (layO o.n)) (layO o.n).fixed).err = 0 from he)]
    rfl
  rw [hS]
  have hn := mapV_n (h.proc (o := layO1 o) hp).1.mp he
  refine ⟨⟨(mapV tp.L (-1) (layE S.reg (layO o.n)) false).l, forgetP tp.A (mapV tp.L (-1) (layE S.reg (layO o.n)) false).gone⟩, ?_, (hw he).1, forgetP_len _ _, hn.1, ?_⟩
  · show geA (setP S.ps o.to _) o.to = _
    rw [geA_setP, if_pos rfl, hp]
    rfl
  · have h1 : (layE S.reg (layO o.n)).e - (layE S.reg (layO o.n)).s = o.n := by show o.n - 0 = o.n; omega
    rw [h1] at hn
    exact hn.2
end
end Go.Proofs.YtefiiooibbkffaaGreat

namespace Go.Proofs.YtefiiooibbkffaaGreat
open Go.ChangeShapes Go.WideShapes Go.ChangeAt Go.RowKit Go.Deep Go.Sort
set_option linter.unusedVariables false
set_option linter.unusedSimpArgs false

theorem layO_ok {n : Int} (hn : okI n) : OkO (layO n) :=
  have z : okI 0 := ⟨by decide, by decide⟩
  ⟨z, z, (show okI (-1) from ⟨by decide, by decide⟩), hn, (show okI 3 from ⟨by decide, by decide⟩), z, z, z, z, z, z, z⟩
theorem lay_err {S : Fl} {id : Int} {p : Pr} {o : FOp} (h : (S.lay id p o).e ≠ 0) : (S.lay id p o).S = S := by
  unfold Fl.lay at h ⊢
  split
  · rfl
  · next h1 =>
    rw [if_neg h1] at h
    split
    · rfl
    · next h2 =>
      rw [if_neg h2] at h
      split
      · next h3 => rw [if_pos h3] at h; exact absurd rfl h
      · rfl
theorem meansL_len {S : Fl} {p : Pr} : ∀ {P : List (En × Int)} {l : List (Option (List UInt8))}, meansL S p P = some l → l.length = P.length
  | [], l, h => by unfold meansL at h; cases h; rfl
  | z :: P, l, h => by
    unfold meansL at h
    cases e : S.means p z.1 z.2 with
    | none => rw [e] at h; cases h
    | some b =>
      rw [e] at h
      simp only at h
      cases e2 : meansL S p P with
      | none => rw [e2] at h; cases h
      | some m =>
        rw [e2] at h
        obtain rfl := Option.some.inj h
        rw [List.length_cons, List.length_cons, meansL_len e2]
theorem loadAll_len (S : Fl) (p : Pr) (lo hi : Int) : (S.loadAll p lo hi).1.length ≤ (pagesL (goneE p.L lo hi)).length := by
  unfold Fl.loadAll
  split
  · split
    · exact Nat.zero_le _
    · cases e : meansL S p (pagesL (goneE p.L lo hi)) with
      | none => exact Nat.zero_le _
      | some l => exact Nat.le_of_eq (meansL_len e)
  · exact Nat.zero_le _
theorem v_len (v : Value) : (vCells v).length = 1 := rfl
section
variable {w w' : World} {kd kd' : Nat → Ro} {t r : Nat} {h : Gh} {S S' : Fl} {id : Int} {p tp : Pr} {j : Nat} {n : Int}
theorem Sh.none_form {u : Value} (hS : Sh w kd u none) : u = .pointer none := by
  obtain ⟨q, rfl, h2⟩ := hS.form
  cases q with
  | none => rfl
  | some a => cases h2
theorem Sh.some_form {u : Value} {l : List UInt8} (hS : Sh w kd u (some l)) : ∃ g, u = .pointer (some ⟨g, 0, none⟩) := by
  rcases hS with ⟨rfl, h2⟩ | ⟨g, l2, rfl, _⟩
  · cases h2
  · exact ⟨g, rfl⟩
theorem own_nsh {t : Nat} : ¬ own t .sh := fun ⟨_, e⟩ => by cases e
theorem sendSt_next {S5 : Fl} {K : Sd} {a : Int} {i : Nat} {b : List UInt8} (id : Int) : ({ sendSt S5 id K with ps := setP (sendSt S5 id K).ps id (slotF K.p K.c K.nx (a + i)).p, c := upd (slotF K.p K.c K.nx (a + i)).c (slotF K.p K.c K.nx (a + i)).s (some b), nx := (slotF K.p K.c K.nx (a + i)).nx } : Fl) = sendSt S5 id (sendPg a K (i, some b)) := by
  unfold sendSt sendPg
  simp only [setP_setP]
theorem FW.sent {w5 : World} {kd5 : Nat → Ro} {S5 : Fl} {K : Sd} {a : Int} {i : Nat} {ι5 : Nat → Nat} {sp5 : Nat → Value} (k : FW w kd t r h (sendSt S5 id K)) (hD : SlotD w w5 kd t h.g h.ι h.sp K.c K.nx (setP S5.ps id K.p) id K.p (a + i) kd5 ι5 sp5) {u : Value} {b : List UInt8} (hS : Sh w kd u (some b)) :
    FW (w5.setCell ⟨ι5 (slotF K.p K.c K.nx (a + i)).s, 0, none⟩ u) kd5 t r { h with ι := ι5, sp := upd sp5 (slotF K.p K.c K.nx (a + i)).s u } (sendSt S5 id (sendPg a K (i, some b))) ∧ Ch (own t) kd kd5 w (w5.setCell ⟨ι5 (slotF K.p K.c K.nx (a + i)).s, 0, none⟩ u) := by
  have h1 := k.slotted (S := sendSt S5 id K) hD hS
  have e := sendSt_next (S5 := S5) (K := K) (a := a) (i := i) (b := b) id
  refine ⟨?_, h1.2⟩
  rw [← e]
  exact h1.1
set_option maxRecDepth 100000 in
set_option maxHeartbeats 16000000 in
theorem send_ok (k : FW w kd t r h S) (hs : SI S j n) (hj : j ≤ 150) (hn0 : 0 ≤ n) (hn : n ≤ 490) (o : FOp) (ho : OkO o) (hp : geA S.ps o.proc = some p) (hpg : 1 ≤ o.n → o.n ≤ 4096 → o.n ≤ 40) :
    Calls Tryz.prog 82 #[.pointer (some ⟨r, 0, none⟩), .pointer (some ⟨(h.g o.proc).b, 0, none⟩), .agg #[.int .i64 o.k, .int .i64 o.proc, .int .i64 o.addr, .int .i64 o.n, .int .i64 o.prot, .bool o.sh, .int .i64 o.file, .int .i64 o.off, .bool o.fixed, .int .i64 o.how, .int .i64 o.ati, .int .i64 o.v, .int .i64 o.hd, .int .i64 o.to]] w fun e w' => e = .returned (.tuple #[.int .i64 (S.send p o).n, .int .i64 (S.send p o).e]) ∧ Dn t r kd w w' (S.send p o).S := by
  have ga := World.grownBy_alloc w (.cells #[.int .i64 o.k, .int .i64 o.proc, .int .i64 o.addr, .int .i64 o.n, .int .i64 o.prot, .bool o.sh, .int .i64 o.file, .int .i64 o.off, .bool o.fixed, .int .i64 o.how, .int .i64 o.ati, .int .i64 o.v, .int .i64 o.hd, .int .i64 o.to] 34) none
  have hB := OpB.new w o
  have hcB := Ch.new noRo kd w (.cells #[.int .i64 o.k, .int .i64 o.proc, .int .i64 o.addr, .int .i64 o.n, .int .i64 o.prot, .bool o.sh, .int .i64 o.file, .int .i64 o.off, .bool o.fixed, .int .i64 o.how, .int .i64 o.ati, .int .i64 o.v, .int .i64 o.hd, .int .i64 o.to] 34) .no
  generalize hwB : w.alloc (.cells #[.int .i64 o.k, .int .i64 o.proc, .int .i64 o.addr, .int .i64 o.n, .int .i64 o.prot, .bool o.sh, .int .i64 o.file, .int .i64 o.off, .bool o.fixed, .int .i64 o.how, .int .i64 o.ati, .int .i64 o.v, .int .i64 o.hd, .int .i64 o.to] 34) = wB at *
  have kB := k.chNo hcB
  have hk : upd kd w.heap.size .no w.heap.size = .no := upd_same _ _ _
  obtain ⟨kdB, hkB⟩ : ∃ f, upd kd w.heap.size .no = f := ⟨_, rfl⟩
  rw [hkB] at hcB kB hk
  have kD := kB.grow (grown_drew1 wB)
  have hOD := hB.grow (grown_drew1 wB)
  have k0 := kB.hw.at.1
  have c13 := hB.at.c13
  have c2 := hOD.at.c2
  have c3 := hOD.at.c3
  have HC0 := Lib.hid ((hcB.mono fun _ e => (no_ro _ e).elim : Ch (own t) kd kdB w wB).trans (Ch.grown (grown_drew1 wB)))
  have HOk := Lib.hid (hs.ok (by omega) (by omega))
  have HS := Lib.hid hs
  have HK := Lib.hid kD
  have Hk := Lib.hid hk
  have HOB := Lib.hid hOD
  have HP := Lib.hid hp
  have HO := Lib.hid ho
  have HPg := Lib.hid hpg
  cases ht : geA S.ps o.to with
  | none =>
    have hlk := kD.pm.look0 (geA_noids ht) ho.tt
    have HSe := Lib.hid (send_no7 (p := p) (o := o) ht)
    rw [HSe.out]
    clear k kB kD ga hB hOD hcB hs hp hk hkB ht hpg c2 c3
    go_enter Tryz.func82, Tryz.ntmps82
    go_upto_region 1 with fail
    try simp only [hwB]
    clear hwB
    go_region
    clear k0 hlk c13
    go_wp2_with fail
    go_ret2
    exact ⟨rfl, _, _, HK.out, HC0.out⟩
  | some tp =>
    have hlk := kD.pm.look (geA_ids ht) ho.tt
    have HT := Lib.hid ht
    have hA := ho.addr
    clear k kB kD ga hB hOD hcB hs hp hk hkB ht hpg ho
    go_enter Tryz.func82, Tryz.ntmps82
    go_upto_region 1 with fail
    try simp only [hwB]
    clear hwB
    go_region
    clear k0 hlk c13
    have HNo := Lib.hid (show ¬ mayB3 o.addr o.n = true → ((Ending.returned (.tuple #[.int .i64 0, .int .i64 2])) = .returned (.tuple #[.int .i64 (S.send p o).n, .int .i64 (S.send p o).e]) ∧ Dn t r kd w wB.drew (S.send p o).S) from fun hm => by
      rw [send_no2 HT.out hm]
      exact ⟨rfl, _, _, HK.out, HC0.out⟩)
    by_cases h1 : o.n < 1
    · have b1 : decide (o.n < 1) = true := decide_eq_true h1
      have HN := Lib.hid (HNo.out fun hm => by have := of_decide_eq_true hm; omega)
      clear h1
      go_wp2_with fail
      go_ret2
      exact HN.out
    have b1 : decide (o.n < 1) = false := decide_eq_false h1
    by_cases h2 : o.n > 4096
    · have b2 : decide (o.n > 4096) = true := decide_eq_true h2
      have HN := Lib.hid (HNo.out fun hm => by have := of_decide_eq_true hm; omega)
      clear h2
      go_wp2_with fail
      go_ret2
      exact HN.out
    have b2 : decide (o.n > 4096) = false := decide_eq_false h2
    by_cases h3 : o.addr < 0
    · have b3 : decide (o.addr < 0) = true := decide_eq_true h3
      have HN := Lib.hid (HNo.out fun hm => by have := of_decide_eq_true hm; omega)
      clear h3
      go_wp2_with fail
      go_ret2
      exact HN.out
    have b3 : decide (o.addr < 0) = false := decide_eq_false h3
    by_cases h4 : o.addr > 67108864 - o.n
    · have b4 : decide (o.addr > 67108864 - o.n) = true := decide_eq_true h4
      have HN := Lib.hid (HNo.out fun hm => by have := of_decide_eq_true hm; omega)
      clear h4
      go_wp2_with fail
      go_ret2
      exact HN.out
    have b4 : decide (o.addr > 67108864 - o.n) = false := decide_eq_false h4
    have HM := Lib.hid (show mayB3 o.addr o.n = true from decide_eq_true (by omega))
    have hn40 : o.n ≤ 40 := HPg.out (by omega) (by omega)
    have hLI := (HS.out.proc (o := ⟨20, o.proc, 0, 0, 0, false, 0, 0, false, 0, 0, 0, 0, 0⟩) HP.out).1
    have hgl := sum_goneLe hLI.mp.rf o.addr (o.addr + o.n)
    have hgr := rf_gone o.addr (o.addr + o.n) hLI.mp.rf
    have hsm := hLI.sm
    have HLd := Lib.hid (loadAll_ok HK.out HOk.out HP.out o.addr (o.addr + o.n) (by have := sumN_E _ (rf_le hgr); rw [pagesL_len]; omega) (by have := len_sum _ hgr; omega) (fb_gone (fb_mono hLI.fb (by omega)) _ _))
    have hll := loadAll_len S p o.addr (o.addr + o.n)
    rw [pagesL_len] at hll
    have hlN := sumN_E _ (rf_le hgr)
    obtain ⟨l, hl⟩ : ∃ l, (S.loadAll p o.addr (o.addr + o.n)).1 = l := ⟨_, rfl⟩
    obtain ⟨eL, heL⟩ : ∃ eL, (S.loadAll p o.addr (o.addr + o.n)).2 = eL := ⟨_, rfl⟩
    rw [hl, heL] at HLd
    rw [hl] at hll
    have HLl := Lib.hid (show l.length ≤ 1000 by omega)
    have HL := Lib.hid hl
    have HE := Lib.hid heL
    clear HNo hLI hgl hgr hsm hl heL hll hlN
    go_wp2_with fail
    refine HLd.out.mono ?_
    rintro e w3 ⟨v, rfl, ⟨us, hus, hul, hsh⟩, g3⟩
    obtain ⟨av, cv, hav⟩ := OwnOf.form hus
    subst hav
    obtain ⟨kdR, hkR⟩ : ∃ f : Nat → Ro, (fun x => if (Value.slice av us.length cv).ownBlock = some x then Ro.no else kdB x) = f := ⟨_, rfl⟩
    have hcR : Ch noRo kdB kdR wB.drew w3 := (Ch.grown (R := noRo) (kd := kdB) g3).name fun b hb => by
      rw [← hkR]
      simp only
      rw [if_neg (fun e => by have := (OwnOf.lt hus e).1; omega)]
    have HC3 := Lib.hid (HC0.out.trans (hcR.mono fun _ e => (no_ro _ e).elim))
    have HK3 := Lib.hid (HK.out.chNo hcR)
    have HRow := Lib.hid hus
    have HRk := Lib.hid (show ∀ b, (Value.slice av us.length cv).ownBlock = some b → kdR b = .no from fun b hb => by rw [← hkR]; simp only; rw [if_pos hb])
    have HSh3 := Lib.hid (show ∀ (i : Nat) u b, us[i]? = some u → l[i]? = some b → Sh w3 kdR u b from fun i u b h1 h2 => (hsh i u b h1 h2).ch hcR (no_ro _))
    have HUl := Lib.hid hul
    have HOB3 := Lib.hid ((HOB.out.grow g3).at.c3)
    clear hus hul hsh g3 hkR hcR HLd HK HC0 c2 c3
    by_cases he : eL = 0
    · subst he
      have hSL := sendLay (o := o) HS.out HT.out
      have HLy := Lib.hid (lay_okG HK3.out HOk.out (layO o.n) (layO_ok HO.out.n) HT.out (fun he => (hSL.2 he).ok (by omega) (by unfold pgO; split <;> (try simp only [layO1]) <;> omega)) (by have h9 := (HS.out.proc (o := layO1 o) HT.out).1; have := len_sum _ h9.mp.rf; have := h9.sm; omega))
      have HSL := Lib.hid hSL.1
      obtain ⟨S5, hS5⟩ : ∃ S5, (S.lay o.to tp (layO o.n)).S = S5 := ⟨_, rfl⟩
      obtain ⟨a, ha⟩ : ∃ a, (S.lay o.to tp (layO o.n)).n = a := ⟨_, rfl⟩
      obtain ⟨e5, he5⟩ : ∃ e5, (S.lay o.to tp (layO o.n)).e = e5 := ⟨_, rfl⟩
      rw [hS5, ha, he5] at HLy
      rw [hS5, ha, he5] at HSL
      have HS5 := Lib.hid hS5
      have HA5 := Lib.hid ha
      have HE5 := Lib.hid he5
      simp only [layO] at HLy
      have q3 := HOB3.out
      clear hSL hS5 ha he5
      go_wp2_with fail
      refine HLy.out.mono ?_
      rintro e w5 ⟨rfl, kd5, h5, k5, c5, hgb⟩
      have HK5 := Lib.hid k5
      have HC5 := Lib.hid c5
      have HGb := Lib.hid hgb
      clear k5 c5 hgb HLy q3
      by_cases he5 : e5 = 0
      · subst he5
        obtain ⟨t2, ht2, hsi, hal, ha0, ha1⟩ := HSL.out 0 rfl rfl
        have HSend := Lib.hid (show S.send p o = ⟨sendSt S5 o.to (sendK S5 t2 a l l.length), a, 0⟩ by
          rw [send_all HT.out HM.out (HE.out) HE5.out (t2 := t2) (by rw [HS5.out]; exact ht2), HS5.out, HA5.out, HL.out])
        have HT2 := Lib.hid ht2
        have HSI := Lib.hid hsi
        have HInv := Lib.hid (sendK_inv S5 t2 a l (hsi.ps.nx _ (geA_some ht2)))
        have HAl := Lib.hid (show ∀ i, i ≤ l.length → (sendK S5 t2 a l i).p.A.length ≤ 100000000 from fun i hi => by
          have h8 := (HInv.out i hi).al
          have h9 := (hsi.ps.pr _ (geA_some ht2)).2
          have h10 := HUl.out
          simp only at h9
          have h11 := HLl.out
          omega)
        have HNd := Lib.hid HK5.out.bw.nd
        have HK0 := Lib.hid (show ∃ kdm hm, FW w5 kdm t r hm (sendSt S5 o.to (sendK S5 t2 a l 0)) ∧ (∀ x, (hm.g x).b = (h.g x).b) ∧ Ch (own t) kd5 kdm w5 w5 from ⟨kd5, h5, (by
          have e : sendSt S5 o.to (sendK S5 t2 a l 0) = S5 := by
            unfold sendSt sendK
            simp only [List.take_zero, List.foldl_nil]
            rw [setP_same _ HNd.out ht2]
          rw [e]
          exact HK5.out), HGb.out, Ch.refl _ _ _⟩)
        clear ht2 hsi hal HSL HK5
        have hlen : us.length = l.length := HUl.out
        have hll := HLl.out
        go_wp2_with fail
        go_loopw [76] (fun iv wr => ∃ i : Nat, i ≤ us.length ∧ iv = .int .i64 i ∧ Hid (∃ kdm hm, FW wr kdm t r hm (sendSt S5 o.to (sendK S5 t2 a l i)) ∧ (∀ x, (hm.g x).b = (h.g x).b) ∧ Ch (own t) kd5 kdm w5 wr)) (fun iv _ => us.length - (intOf iv).toNat)
        case atStart => exact ⟨0, by omega, rfl, HK0⟩
        case round =>
          obtain ⟨i, hi, rfl, HKi⟩ := hrel
          clear HK0
          by_cases hlt : i < us.length
          · obtain ⟨u, hu⟩ : ∃ u, us[i]? = some u := ⟨_, List.getElem?_eq_getElem hlt⟩
            obtain ⟨b, hb⟩ : ∃ b, l[i]? = some b := ⟨_, List.getElem?_eq_getElem (by omega)⟩
            obtain ⟨kdm, hm, km, hmb, cm⟩ := HKi.out
            have hc := (HC5.out.mono fun _ e => e : Ch (own t) kdR kd5 w3 w5).trans cm
            have hrow : VOwn wr wB.drew.heap.size (.slice av us.length cv) us := OwnOf.kept HRow.out fun b hb => hc.block b (OwnOf.lt HRow.out hb).2 (by rw [HRk.out b hb]; exact own_no17)
            have hsh := (HSh3.out i u b hu hb).ch hc own_nsh
            obtain ⟨g, c9, hsl⟩ := OwnOf.there hrow (by omega)
            injection hsl with e1 e2 e3
            subst e1
            subst e3
            have kz := OwnOf.at v_len hrow hu (q := 0) rfl
            rw [Nat.mul_one, Nat.add_zero] at kz
            have HNx := Lib.hid (sendK_next (S5 := S5) (t2 := t2) (a := a) hb)
            have hil : i < l.length := by omega
            have HIn := Lib.hid (HInv.out i (by omega))
            have HAi := Lib.hid (HAl.out i (by omega))
            cases b with
            | none =>
              obtain rfl := hsh.none_form
              have HK9 := Lib.hid (show ∃ kdm hm, FW wr kdm t r hm (sendSt S5 o.to (sendK S5 t2 a l (i + 1))) ∧ (∀ x, (hm.g x).b = (h.g x).b) ∧ Ch (own t) kd5 kdm w5 wr from ⟨kdm, hm, by rw [HNx.out]; exact km, hmb, cm⟩)
              clear km hmb cm hc hrow hsh HKi HNx HIn HAi hu hb
              go_wp2_with fail
              go_roundw
              case rel => exact ⟨i + 1, by omega, by go_num, HK9⟩
              case measure => simp [intOf]; omega
            | some bl =>
              obtain ⟨gb, rfl⟩ := hsh.some_form
              obtain ⟨K, hK⟩ : ∃ K, sendK S5 t2 a l i = K := ⟨_, rfl⟩
              rw [hK] at km HNx HIn HAi
              have hgp : geA (sendSt S5 o.to K).ps o.to = some K.p := by show geA (setP S5.ps o.to K.p) o.to = _; rw [geA_setP, if_pos rfl, HT2.out]; rfl
              have hnx : ∀ q, q ∈ (sendSt S5 o.to K).ps → ∀ a, a ∈ q.2.A → a.2 < (sendSt S5 o.to K).nx := fun q hq x hx => by
                rcases mem_setP hq with ⟨-, h3⟩ | rfl
                · exact Nat.lt_of_lt_of_le (HSI.out.ps.nx q h3 x hx) HIn.out.mo
                · exact HIn.out.nx x hx
              have hSl := slotAt_ok (c := K.c) (nx := K.nx) (qs := setP S5.ps o.to K.p) km.bw hgp hnx HAi.out (pg := a + (i : Int)) ⟨by omega, by omega⟩
              rw [hmb o.to] at hSl
              have HSl := Lib.hid hSl
              have Hkm := Lib.hid km
              have Hmb := Lib.hid hmb
              have Hcm := Lib.hid cm
              have Hsh := Lib.hid hsh
              clear km hmb cm hc hrow hsh HKi hgp hnx hSl hK hu hb HIn HAi
              go_wp2_with fail
              refine HSl.out.mono ?_
              rintro e w7 ⟨kd7, ι7, sp7, rfl, hD⟩
              have hsl := hD.hb.at
              have hslf := frozen_of_row _ _ 0 _ _ hD.hb.hb
              obtain ⟨k9, c9⟩ := Hkm.out.sent hD Hsh.out
              have HK9 := Lib.hid (show ∃ kdm hm, FW (w7.setCell ⟨ι7 (slotF K.p K.c K.nx (a + i)).s, 0, none⟩ (.pointer (some ⟨gb, 0, none⟩))) kdm t r hm (sendSt S5 o.to (sendK S5 t2 a l (i + 1))) ∧ (∀ x, (hm.g x).b = (h.g x).b) ∧ Ch (own t) kd5 kdm w5 (w7.setCell ⟨ι7 (slotF K.p K.c K.nx (a + i)).s, 0, none⟩ (.pointer (some ⟨gb, 0, none⟩))) by rw [HNx.out]; exact ⟨kd7, _, k9, Hmb.out, Hcm.out.trans c9⟩)
              generalize sp7 (slotF K.p K.c K.nx (a + i)).s = us7 at *
              generalize ι7 (slotF K.p K.c K.nx (a + i)).s = gs at *
              clear hD k9 c9 HSl Hkm Hmb Hcm Hsh HNx
              go_wp2_with fail
              go_roundw
              case rel => exact ⟨i + 1, by omega, by go_num, HK9⟩
              case measure => simp [intOf]; omega
          · obtain rfl : i = us.length := by omega
            obtain ⟨kdm, hm, km, hmb, cm⟩ := HKi.out
            have HD := Lib.hid (show Dn t r kd w wr (sendSt S5 o.to (sendK S5 t2 a l l.length)) from ⟨kdm, hm, by rw [← HUl.out]; exact km, (HC3.out.trans HC5.out).trans cm⟩)
            clear km hmb cm HKi
            go_wp2_with fail
            go_ret2
            exact ⟨by rw [HSend.out]; rfl, by rw [HSend.out]; exact HD.out⟩
      · have b9 : (e5 != 0) = true := by simpa using he5
        have HSend := Lib.hid (show S.send p o = S.no e5 by rw [send_noE HT.out HM.out HE.out (by rw [HE5.out]; exact he5), HE5.out])
        have HS9 := Lib.hid (show S5 = S by rw [← HS5.out]; exact lay_err (by rw [HE5.out]; exact he5))
        clear he5
        go_wp2_with fail
        go_ret2
        exact ⟨by rw [HSend.out]; rfl, by rw [HSend.out]; exact ⟨kd5, h5, (show FW w5 kd5 t r h5 S by have k9 := HK5.out; rw [HS9.out] at k9; exact k9), HC3.out.trans HC5.out⟩⟩
    · have b9 : (eL != 0) = true := by simpa using he
      have HSend := Lib.hid (show S.send p o = S.no eL by rw [send_noL HT.out HM.out (by rw [HE.out]; exact he), HE.out])
      clear he
      go_wp2_with fail
      go_ret2
      exact ⟨by rw [HSend.out]; rfl, by rw [HSend.out]; exact ⟨kdR, h, HK3.out, HC3.out⟩⟩
end
end Go.Proofs.YtefiiooibbkffaaGreat

namespace Go.Proofs.YtefiiooibbkffaaGreat
open Go.ChangeShapes Go.WideShapes Go.ChangeAt Go.RowKit Go.Deep Go.Sort
set_option linter.unusedVariables false
set_option linter.unusedSimpArgs false

section
variable {w w' : World} {kd kd' : Nat → Ro} {t r : Nat} {h : Gh} {S S' : Fl} {id : Int} {p tp : Pr} {j : Nat} {n : Int} {o : FOp}
theorem SI.send (h : SI S j n) (hn : n ≤ 490) (hk : o.k = 20) (hp : geA S.ps o.proc = some p) : SI (S.send p o).S (j + 1) (n + pgO o) := by
  have h0 : SI S (j + 1) (n + pgO o) := h.mono (by omega) (by have := pgO_pos o; omega)
  cases ht : geA S.ps o.to with
  | none => rw [send_no7 ht]; exact h0
  | some tp =>
    by_cases hm : mayB3 o.addr o.n = true
    · by_cases hl : (S.loadAll p o.addr (o.addr + o.n)).2 = 0
      · by_cases he : (S.lay o.to tp (layO o.n)).e = 0
        · obtain ⟨t2, ht2, hsi, hal, -, -⟩ := (sendLay (o := o) h ht).1 _ rfl he
          rw [send_all ht hm hl he ht2]
          have hp1 : pgO (layO1 o) = pgO o := by
            unfold pgO
            rw [hk]
            simp [layO1]
          rw [hp1] at hsi
          have hm2 := geA_some ht2
          have hI := sendK_inv _ t2 (S.lay o.to tp (layO o.n)).n (S.loadAll p o.addr (o.addr + o.n)).1 (hsi.ps.nx _ hm2) _ (Nat.le_refl _)
          have hLI := (h.proc (o := ⟨20, o.proc, 0, 0, 0, false, 0, 0, false, 0, 0, 0, 0, 0⟩) hp).1
          have hgl := sum_goneLe hLI.mp.rf o.addr (o.addr + o.n)
          have hgr := rf_gone o.addr (o.addr + o.n) hLI.mp.rf
          have hsm := hLI.sm
          have hll := loadAll_len S p o.addr (o.addr + o.n)
          rw [pagesL_len] at hll
          have hlN := sumN_E _ (rf_le hgr)
          have hA : tp.A.length ≤ 500 * j := (h.ps.pr _ (geA_some ht)).2
          have hK := hI.al
          have g := hsi.gs
          refine ⟨hsi.ps.set (hsi.ps.io _ hm2) hI.mo (Nat.le_refl _) (Int.le_refl _) (by rw [hI.pl]; exact (hsi.ps.pr _ hm2).1) (by omega) hI.nx, ⟨g.hl, g.hz, g.fl, g.r0, g.r1, g.hh⟩⟩
        · rw [send_noE ht hm hl he]; exact h0
      · rw [send_noL ht hm hl]; exact h0
    · rw [send_no2 ht hm]; exact h0
theorem act_P (hn : namesB o.k = true) (hp : geA S.ps o.proc = some p) : S.act o = S.actP p o := by unfold Fl.act; rw [if_pos hn, hp]
theorem act_N (hn : namesB o.k = true) (hp : geA S.ps o.proc = none) : S.act o = S.no 7 := by unfold Fl.act; rw [if_pos hn, hp]
theorem pgO_0 (h : ¬ (o.k = 1 ∨ o.k = 20)) : pgO o = 0 := by unfold pgO; rw [if_neg (fun e => h e.1)]
theorem SI.unmap (h : SI S j n) (hp : geA S.ps o.proc = some p) : SI (S.unmap p o).S (j + 1) n ∧ SI { S with ps := setP S.ps o.proc ⟨(unmapV p.L o.addr o.n).l, forgetP p.A (unmapV p.L o.addr o.n).gone⟩ } (j + 1) n := by
  obtain ⟨h1, h2, h3, h4⟩ := h.proc hp
  have hU := h1.unmap o.addr o.n
  have hW := SI.went h hp (d := unmapV p.L o.addr o.n) (Int.le_refl n) (hU.1.mono (Int.le_refl _) (by omega)) (reg := S.reg) h.gs.r0 (by have := h.gs.r1; omega)
  refine ⟨?_, hW.2⟩
  unfold Fl.unmap
  split
  · exact hW.1
  · exact h.mono (by omega) (Int.le_refl _)
theorem SI.layed (h : SI S j n) (hk : o.k = 1) (hp : geA S.ps o.proc = some p) : SI (S.lay o.proc p o).S (j + 1) (n + pgO o) ∧
    ((decide (o.file > 0) && !hasF S.sz o.file) = false → (mapV p.L o.addr (layE S.reg o) o.fixed).err = 0 → SI (S.did2 o.proc p (mapV p.L o.addr (layE S.reg o) o.fixed) (max S.reg (layE S.reg o).f)) (j + 1) (n + pgO o)) := by
  have h0 : SI S (j + 1) (n + pgO o) := h.mono (by omega) (by have := pgO_pos o; omega)
  have key : ∀ hno : (decide (o.file > 0) && !hasF S.sz o.file) = false, ∀ he : (mapV p.L o.addr (layE S.reg o) o.fixed).err = 0, _ := fun hno he => SI.went h hp (d := mapV p.L o.addr (layE S.reg o) o.fixed) (m := n + pgO o) (by have := pgO_pos o; omega) (h.lay hp (.inl hk) hno he).1 (reg := max S.reg (layE S.reg o).f) (by have := h.gs.r0; omega) (by
    have h1 := layE_f h hno
    have h2 := h.gs.r1
    omega)
  refine ⟨?_, fun hno he => (key hno he).2⟩
  unfold Fl.lay
  by_cases h1 : (decide (o.file > 0) && !hasF S.sz o.file) = true
  · rw [if_pos h1]; exact h0
  · rw [if_neg h1]
    by_cases h2 : (decide (o.file = 0) && decide (o.off ≠ 0)) = true
    · rw [if_pos h2]; exact h0
    · rw [if_neg h2]
      by_cases h3 : (mapV p.L o.addr (layE S.reg o) o.fixed).err = 0
      · rw [if_pos h3]; exact (key (Bool.eq_false_iff.2 h1) h3).1
      · rw [if_neg h3]; exact h0
theorem names_cases {k : Int} (h : namesB k = true) : k = 1 ∨ k = 2 ∨ k = 3 ∨ k = 4 ∨ k = 5 ∨ k = 6 ∨ k = 7 ∨ k = 8 ∨ k = 9 ∨ k = 10 ∨ k = 11 ∨ k = 12 ∨ k = 20 := by
  unfold namesB at h
  rw [Bool.or_eq_true, decide_eq_true_eq, decide_eq_true_eq] at h
  omega
theorem names_no {k : Int} (h : ¬ namesB k = true) : ¬ (1 ≤ k ∧ k ≤ 12) ∧ k ≠ 20 := by
  unfold namesB at h
  rw [Bool.or_eq_true, decide_eq_true_eq, decide_eq_true_eq] at h
  omega
/-- What a world of few operations keeps, whatever is done. -/
theorem SI.act (h : SI S j n) (hn0 : 0 ≤ n) (hn : n ≤ 490) : SI (S.act o).S (j + 1) (n + pgO o) := by
  have h0 : SI S (j + 1) (n + pgO o) := h.mono (by omega) (by have := pgO_pos o; omega)
  by_cases hnm : namesB o.k = true
  · cases hp : geA S.ps o.proc with
    | none => rw [act_N hnm hp]; exact h0
    | some p =>
      rw [act_P hnm hp]
      obtain ⟨g1, g2, g3, g4⟩ := h.proc hp
      unfold Fl.actP
      rcases names_cases hnm with hk | hk | hk | hk | hk | hk | hk | hk | hk | hk | hk | hk | hk
      · rw [if_pos hk]; exact (h.layed hk hp).1
      all_goals (try rw [pgO_0 (by omega), Int.add_zero])
      · rw [if_neg (by omega), if_pos hk]; exact (h.unmap hp).1
      · rw [if_neg (by omega), if_neg (by omega), if_pos hk]; exact h.turned hp (g1.prot _ _ _)
      · rw [if_neg (by omega), if_neg (by omega), if_neg (by omega), if_pos hk]; exact h.turned hp (g1.other _ _ _ _ _ _ (.inl ⟨rfl, by omega⟩))
      · rw [if_neg (by omega), if_neg (by omega), if_neg (by omega), if_neg (by omega), if_pos hk]; exact h.advise hp
      · rw [if_neg (by omega), if_neg (by omega), if_neg (by omega), if_neg (by omega), if_neg (by omega), if_pos hk]; exact h.turned hp (g1.other _ _ _ _ _ _ (.inr (.inr rfl)))
      · rw [if_neg (by omega), if_neg (by omega), if_neg (by omega), if_neg (by omega), if_neg (by omega), if_neg (by omega), if_pos hk]; exact h.turned hp (g1.other _ _ _ _ _ _ (.inr (.inr rfl)))
      · rw [if_neg (by omega), if_neg (by omega), if_neg (by omega), if_neg (by omega), if_neg (by omega), if_neg (by omega), if_neg (by omega), if_pos hk]; exact h.mono (by omega) (Int.le_refl _)
      · rw [if_neg (by omega), if_neg (by omega), if_neg (by omega), if_neg (by omega), if_neg (by omega), if_neg (by omega), if_neg (by omega), if_neg (by omega), if_pos hk]; exact h.store hp
      · rw [if_neg (by omega), if_neg (by omega), if_neg (by omega), if_neg (by omega), if_neg (by omega), if_neg (by omega), if_neg (by omega), if_neg (by omega), if_neg (by omega), if_pos hk]; exact h.fork hn0 hn hp
      · rw [if_neg (by omega), if_neg (by omega), if_neg (by omega), if_neg (by omega), if_neg (by omega), if_neg (by omega), if_neg (by omega), if_neg (by omega), if_neg (by omega), if_neg (by omega), if_pos hk]; exact h.exit _
      · rw [if_neg (by omega), if_neg (by omega), if_neg (by omega), if_neg (by omega), if_neg (by omega), if_neg (by omega), if_neg (by omega), if_neg (by omega), if_neg (by omega), if_neg (by omega), if_neg (by omega), if_pos hk]; exact h.lend
      · rw [if_neg (by omega), if_neg (by omega), if_neg (by omega), if_neg (by omega), if_neg (by omega), if_neg (by omega), if_neg (by omega), if_neg (by omega), if_neg (by omega), if_neg (by omega), if_neg (by omega), if_neg (by omega)]; exact h.send hn hk hp
  · have hc := names_no hnm
    unfold Fl.act
    rw [if_neg hnm]
    by_cases hk : o.k = 1 ∨ o.k = 20
    · omega
    rw [pgO_0 hk, Int.add_zero]
    rw [pgO_0 hk, Int.add_zero] at h0
    split
    · unfold Fl.peek
      split
      · exact h0
      · split <;> exact h0
    · split
      · exact h.back
      · split
        · exact h.put
        · split
          · exact h0
          · split
            · exact h.size
            · split
              · unfold Fl.sync
                split <;> exact h0
              · split <;> exact h0
end
end Go.Proofs.YtefiiooibbkffaaGreat

namespace Go.Proofs.YtefiiooibbkffaaGreat
open Go.ChangeShapes Go.WideShapes Go.ChangeAt Go.RowKit Go.Deep Go.Sort
set_option linter.unusedVariables false
set_option linter.unusedSimpArgs false

section
variable {w w' : World} {kd kd' : Nat → Ro} {t r : Nat} {h : Gh} {S S' : Fl} {id : Int} {p tp : Pr} {j : Nat} {n : Int} {o : FOp}
theorem store_n : (S.store p o).n = 0 := by
  unfold Fl.store
  split
  · split
    · rfl
    · split <;> rfl
  · rfl
theorem unmap_n : (S.unmap p o).n = 0 := by unfold Fl.unmap; split <;> rfl
theorem advise_n : (S.advise p o).n = 0 := by unfold Fl.advise; split <;> rfl
theorem put_n : (S.put o).n = 0 := by unfold Fl.put; split <;> rfl
theorem size_n : (S.size o).n = 0 := by
  unfold Fl.size
  split
  · split <;> rfl
  · rfl
theorem sync_n : (S.sync o).n = 0 ∧ (S.sync o).S = S := by unfold Fl.sync; split <;> exact ⟨rfl, rfl⟩
theorem back_n : (S.back o).n = 0 := by unfold Fl.back; split <;> rfl
theorem peek_S : (S.peek o).S = S := by
  unfold Fl.peek
  split
  · rfl
  · split <;> rfl
theorem store_ok (k : FW w kd t r h S) (hok : SOk S) (o : FOp) (hp : geA S.ps o.proc = some p) :
    Calls Tryz.prog 73 #[.pointer (some ⟨r, 0, none⟩), .pointer (some ⟨(h.g o.proc).b, 0, none⟩), .agg #[.int .i64 o.k, .int .i64 o.proc, .int .i64 o.addr, .int .i64 o.n, .int .i64 o.prot, .bool o.sh, .int .i64 o.file, .int .i64 o.off, .bool o.fixed, .int .i64 o.how, .int .i64 o.ati, .int .i64 o.v, .int .i64 o.hd, .int .i64 o.to]] w fun e w' => e = .returned (.int .i64 (S.store p o).e) ∧ Dn t r kd w w' (S.store p o).S := by
  by_cases h0 : (S.reach p o.addr 2 (isAtB o.ati && isByB o.v)).2 = 0
  · obtain ⟨x, l, hf⟩ := stF h0
    cases hx : x.sh with
    | true => exact store_sh k hok o hp hf hx
    | false => exact store_pr k hok o hp hf hx
  · exact store_no k hok o hp h0
theorem laid_ok (k : FW w kd t r h S) (hs : SI S j n) (hj : j ≤ 150) (hn0 : 0 ≤ n) (hn : n ≤ 450) (o : FOp) (ho : OkO o) (hk : o.k = 1) (hpg : 1 ≤ o.n → o.n ≤ 4096 → o.n ≤ 40) (hp : geA S.ps o.proc = some p) :
    Calls Tryz.prog 66 #[.pointer (some ⟨r, 0, none⟩), .pointer (some ⟨(h.g o.proc).b, 0, none⟩), .agg #[.int .i64 o.k, .int .i64 o.proc, .int .i64 o.addr, .int .i64 o.n, .int .i64 o.prot, .bool o.sh, .int .i64 o.file, .int .i64 o.off, .bool o.fixed, .int .i64 o.how, .int .i64 o.ati, .int .i64 o.v, .int .i64 o.hd, .int .i64 o.to]] w fun e w' => e = .returned (.tuple #[.int .i64 (S.lay o.proc p o).n, .int .i64 (S.lay o.proc p o).e]) ∧ Dn t r kd w w' (S.lay o.proc p o).S := by
  have hok := hs.ok (by omega) (by omega)
  by_cases h1 : (decide (o.file > 0) && !hasF S.sz o.file) = true
  · have e : S.lay o.proc p o = S.no 7 := by unfold Fl.lay; rw [if_pos h1]
    rw [e]
    exact (lay_no k hok o _ h1).mono fun e w' ⟨he, g⟩ => ⟨he, Dn.grown k g⟩
  · refine lay_ok k hok o ho hp (fun he => ((hs.layed hk hp).2 (Bool.eq_false_iff.2 h1) he).ok (by omega) ?_) ?_
    · unfold pgO
      split
      · next e => have := hpg e.2.1 e.2.2; omega
      · omega
    · have h9 := (hs.proc hp).1
      have := len_sum _ h9.mp.rf
      have := h9.sm
      omega
theorem forked_ok (k : FW w kd t r h S) (hs : SI S j n) (hj : j ≤ 150) (hn0 : 0 ≤ n) (hn : n ≤ 450) (hp : geA S.ps id = some p) :
    Calls Tryz.prog 74 #[.pointer (some ⟨r, 0, none⟩), .pointer (some ⟨(h.g id).b, 0, none⟩)] w fun e w' => e = .returned (.tuple #[.int .i64 (S.fork id p).n, .int .i64 (S.fork id p).e]) ∧ Dn t r kd w w' (S.fork id p).S := by
  have hok := hs.ok (by omega) (by omega)
  by_cases h16 : S.ps.length < 16
  · have e : S.fork id p = ⟨(S.fork id p).S, lowA S.ps, 0⟩ := by unfold Fl.fork; rw [if_pos h16]
    have h9 := (hs.ps.pr _ (geA_some hp)).1
    have h8 := (hs.ps.pr _ (geA_some hp)).2
    have h7 := len_sum _ h9.mp.rf
    have h6 := h9.sm
    have h5 := sum_fork h9.mp
    have h4 := sumN_E _ (rf_le (mapL_fork h9.mp).rf)
    have hF := fork_yes k hok hp h16 (by simp only at h7 h6; omega) (by simp only at h4 h5 h6; omega) (by simp only at h8; omega)
    rw [e]
    exact hF
  · have e : S.fork id p = S.no 5 := by unfold Fl.fork; rw [if_neg h16]
    rw [e]
    exact (fork_no k hs.ps.pl _ h16).mono fun e w' ⟨he, hw⟩ => ⟨he, by rw [hw]; exact ⟨kd, h, k, Ch.refl _ _ _⟩⟩
set_option maxHeartbeats 2000000 in
theorem act_all (k : FW w kd t r h S) (hs : SI S j n) (hj : j ≤ 150) (hn0 : 0 ≤ n) (hn : n ≤ 450) (o : FOp) (ho : OkO o) (hpg : (o.k = 1 ∨ o.k = 20) → 1 ≤ o.n → o.n ≤ 4096 → o.n ≤ 40) :
    Calls Tryz.prog 32 #[.pointer (some ⟨r, 0, none⟩), .agg #[.int .i64 o.k, .int .i64 o.proc, .int .i64 o.addr, .int .i64 o.n, .int .i64 o.prot, .bool o.sh, .int .i64 o.file, .int .i64 o.off, .bool o.fixed, .int .i64 o.how, .int .i64 o.ati, .int .i64 o.v, .int .i64 o.hd, .int .i64 o.to]] w fun e w' => e = .returned (.tuple #[.int .i64 (S.act o).n, .int .i64 (S.act o).e]) ∧ Dn t r kd w w' (S.act o).S := by
  have hok := hs.ok (by omega) (by omega)
  have gr : ∀ {nn ee : Int} {f : FuncId} {args : Array Value} {W : World}, w.grownBy W none → (Calls Tryz.prog f args W fun e w' => e = .returned (.tuple #[.int .i64 nn, .int .i64 ee]) ∧ W.grownBy w' none) → Calls Tryz.prog f args W fun e w' => e = .returned (.tuple #[.int .i64 nn, .int .i64 ee]) ∧ Dn t r kd W w' S := fun g hc => hc.mono fun e w' ⟨h1, h2⟩ => ⟨h1, Dn.grown (k.grow g) h2⟩
  by_cases hnm : namesB o.k = true
  · cases hp : geA S.ps o.proc with
    | none =>
      rw [act_N hnm hp]
      exact (act_none k o hnm ho.k ho.proc hp).mono fun e w' ⟨h1, h2⟩ => ⟨h1, Dn.grown k h2⟩
    | some p =>
      rw [act_P hnm hp]
      obtain ⟨g1, g2, g3, g4⟩ := hs.proc hp
      have e0 : ∀ q, S.actP p o = q → (Calls Tryz.prog 32 #[.pointer (some ⟨r, 0, none⟩), .agg #[.int .i64 o.k, .int .i64 o.proc, .int .i64 o.addr, .int .i64 o.n, .int .i64 o.prot, .bool o.sh, .int .i64 o.file, .int .i64 o.off, .bool o.fixed, .int .i64 o.how, .int .i64 o.ati, .int .i64 o.v, .int .i64 o.hd, .int .i64 o.to]] w fun e w' => e = .returned (.tuple #[.int .i64 q.n, .int .i64 q.e]) ∧ Dn t r kd w w' q.S) → Calls Tryz.prog 32 #[.pointer (some ⟨r, 0, none⟩), .agg #[.int .i64 o.k, .int .i64 o.proc, .int .i64 o.addr, .int .i64 o.n, .int .i64 o.prot, .bool o.sh, .int .i64 o.file, .int .i64 o.off, .bool o.fixed, .int .i64 o.how, .int .i64 o.ati, .int .i64 o.v, .int .i64 o.hd, .int .i64 o.to]] w fun e w' => e = .returned (.tuple #[.int .i64 (S.actP p o).n, .int .i64 (S.actP p o).e]) ∧ Dn t r kd w w' (S.actP p o).S := fun q e hq => by rw [e]; exact hq
      rcases names_cases hnm with hk | hk | hk | hk | hk | hk | hk | hk | hk | hk | hk | hk | hk
      · exact e0 (S.lay o.proc p o) (by unfold Fl.actP; simp [hk]) (act_lay k o hk ho.proc hp fun W g => laid_ok (k.grow g) hs hj hn0 hn o ho hk (hpg (.inl hk)) hp)
      · refine e0 (S.unmap p o) (by unfold Fl.actP; simp [hk]) ?_
        rw [unmap_n]
        have hU := (g1.unmap o.addr o.n)
        have hD := unmap_did g1.mp o.addr o.n
        have h9 := len_sum _ g1.mp.rf
        have h8 := g1.sm
        exact act_unmap (n := 0) k o hk ho.proc hp fun W g => unm_ok (k.grow g) hok o ho hp ((hs.unmap hp).2.ok (by omega) (by omega)) (fun x hx => ⟨(rf_good hD.2.2.2.1 x hx).1, by have := hU.2 x hx; omega⟩) (by have := hD.2.2.1; omega)
      · exact e0 (S.turned o.proc p (protV p.L o.addr o.n o.prot)) (by unfold Fl.actP; simp [hk]) (act_prot k hok o ho hk hp)
      · exact e0 (S.turned o.proc p (otherV p.L o.addr o.n 3 o.how 2 false)) (by unfold Fl.actP; simp [hk]) (act_inherit k hok o ho hk hp)
      · refine e0 (S.advise p o) (by unfold Fl.actP; simp [hk]) ?_
        rw [advise_n]
        exact act_advise (n := 0) k o hk ho.proc hp fun W g => fadvise_ok (k.grow g) hok o ho hp
      · exact e0 (S.turned o.proc p (otherV p.L o.addr o.n 5 0 1 true)) (by unfold Fl.actP; simp [hk]) (act_lock k hok o ho hk hp)
      · exact e0 (S.turned o.proc p (otherV p.L o.addr o.n 5 0 1 false)) (by unfold Fl.actP; simp [hk]) (act_unlock k hok o ho hk hp)
      · exact e0 (S.load p o) (by unfold Fl.actP; simp [hk]) (act_load k o hk ho.proc hp fun W g => gr g (load_ok ((k.grow g).vw hok hp) o))
      · refine e0 (S.store p o) (by unfold Fl.actP; simp [hk]) ?_
        rw [store_n]
        exact act_store (n := 0) k o hk ho.proc hp fun W g => store_ok (k.grow g) hok o hp
      · exact e0 (S.fork o.proc p) (by unfold Fl.actP; simp [hk]) (act_fork k o hk ho.proc hp fun W g => forked_ok (k.grow g) hs hj hn0 hn hp)
      · exact e0 (S.exit o.proc p) (by unfold Fl.actP; simp [hk]) (act_exit (n := 0) k o hk ho.proc hp fun W g => exit_ok (k.grow g) hok ho.proc hp)
      · exact e0 (S.lend p o) (by unfold Fl.actP; simp [hk]) (act_lend k o hk ho.proc hp fun W g => lend_ok (k.grow g) hok o ho hp)
      · exact e0 (S.send p o) (by unfold Fl.actP; simp [hk]) (act_send k o hk ho.proc hp fun W g => send_ok (k.grow g) hs hj hn0 (by omega) o ho hp (hpg (.inr hk)))
  · have hc := names_no hnm
    have e0 : ∀ q, S.act o = q → (Calls Tryz.prog 32 #[.pointer (some ⟨r, 0, none⟩), .agg #[.int .i64 o.k, .int .i64 o.proc, .int .i64 o.addr, .int .i64 o.n, .int .i64 o.prot, .bool o.sh, .int .i64 o.file, .int .i64 o.off, .bool o.fixed, .int .i64 o.how, .int .i64 o.ati, .int .i64 o.v, .int .i64 o.hd, .int .i64 o.to]] w fun e w' => e = .returned (.tuple #[.int .i64 q.n, .int .i64 q.e]) ∧ Dn t r kd w w' q.S) → Calls Tryz.prog 32 #[.pointer (some ⟨r, 0, none⟩), .agg #[.int .i64 o.k, .int .i64 o.proc, .int .i64 o.addr, .int .i64 o.n, .int .i64 o.prot, .bool o.sh, .int .i64 o.file, .int .i64 o.off, .bool o.fixed, .int .i64 o.how, .int .i64 o.ati, .int .i64 o.v, .int .i64 o.hd, .int .i64 o.to]] w fun e w' => e = .returned (.tuple #[.int .i64 (S.act o).n, .int .i64 (S.act o).e]) ∧ Dn t r kd w w' (S.act o).S := fun q e hq => by rw [e]; exact hq
    by_cases k13 : o.k = 13
    · refine e0 (S.peek o) (by unfold Fl.act; rw [if_neg hnm]; simp [k13]) ?_
      rw [peek_S]
      exact act_peek k o k13 ho.proc fun W g => gr g (peek_ok (k.grow g) o ho)
    by_cases k14 : o.k = 14
    · refine e0 (S.back o) (by unfold Fl.act; rw [if_neg hnm]; simp [k14]) ?_
      rw [back_n]
      exact act_back (n := 0) k o k14 ho.proc fun W g => back_ok (k.grow g) o ho
    by_cases k15 : o.k = 15
    · refine e0 (S.put o) (by unfold Fl.act; rw [if_neg hnm]; simp [k15]) ?_
      rw [put_n]
      exact act_put (n := 0) k o k15 ho.proc fun W g => fput_ok (k.grow g) hok o ho
    by_cases k16 : o.k = 16
    · exact e0 (S.get o) (by unfold Fl.act; rw [if_neg hnm]; simp [k16]) (act_get k o k16 ho.proc fun W g => gr g (get_ok (k.grow g) hok o ho))
    by_cases k17 : o.k = 17
    · refine e0 (S.size o) (by unfold Fl.act; rw [if_neg hnm]; simp [k17]) ?_
      rw [size_n]
      exact act_size (n := 0) k o k17 ho.proc fun W g => fsize_ok (k.grow g) hok o
    by_cases k18 : o.k = 18
    · refine e0 (S.sync o) (by unfold Fl.act; rw [if_neg hnm]; simp [k18]) ?_
      rw [sync_n.1, sync_n.2]
      exact act_sync (n := 0) k o k18 ho.proc fun W g => (sync_ok (k.grow g) hok o).mono fun e w' ⟨h1, h2⟩ => ⟨h1, Dn.grown (k.grow g) h2⟩
    by_cases k19 : o.k = 19
    · exact e0 (S.ok 0) (by unfold Fl.act; rw [if_neg hnm]; simp [k19]) ((act_tick k o k19 ho.proc).mono fun e w' ⟨h1, h2⟩ => ⟨h1, Dn.grown k h2⟩)
    · exact e0 (S.no 2) (by unfold Fl.act; rw [if_neg hnm]; simp [k13, k14, k15, k16, k17, k18, k19]) ((act_inval k o (by omega) ho.k ho.proc).mono fun e w' ⟨h1, h2⟩ => ⟨h1, Dn.grown k h2⟩)
/-- Do: the number beside an error is 0. -/
theorem do_all (k : FW w kd t r h S) (hs : SI S j n) (hj : j ≤ 150) (hn0 : 0 ≤ n) (hn : n ≤ 450) (o : FOp) (ho : OkO o) (hpg : (o.k = 1 ∨ o.k = 20) → 1 ≤ o.n → o.n ≤ 4096 → o.n ≤ 40) :
    Calls Tryz.prog 15 #[.pointer (some ⟨r, 0, none⟩), .agg #[.int .i64 o.k, .int .i64 o.proc, .int .i64 o.addr, .int .i64 o.n, .int .i64 o.prot, .bool o.sh, .int .i64 o.file, .int .i64 o.off, .bool o.fixed, .int .i64 o.how, .int .i64 o.ati, .int .i64 o.v, .int .i64 o.hd, .int .i64 o.to]] w fun e w' => e = .returned (.agg #[.int .i64 (S.act o).e, .int .i64 (S.doN o)]) ∧ Dn t r kd w w' (S.act o).S :=
  do_ok k o fun W kdW kW => act_all kW hs hj hn0 hn o ho hpg
end
end Go.Proofs.YtefiiooibbkffaaGreat

namespace Go.Proofs.YtefiiooibbkffaaGreat
open Go.ChangeShapes Go.WideShapes Go.ChangeAt Go.RowKit Go.Deep Go.Sort
set_option linter.unusedVariables false
set_option linter.unusedSimpArgs false

section
variable {w w' : World} {kd kd' : Nat → Ro} {t r : Nat} {h : Gh} {S S' : Fl} {p tp : Pr} {j : Nat} {n : Int} {o : FOp}
set_option maxHeartbeats 2000000 in
theorem fbyte_ok (k : FW w kd t r h S) (hok : SOk S) (id pg a : Int) (hi : okI id) :
    Calls Tryz.prog 21 #[.pointer (some ⟨r, 0, none⟩), .int .i64 id, .int .i64 pg, .int .i64 a] w fun e w' => e = .returned (.tuple #[.int .i64 (S.byte id pg a).1, .int .i64 (S.byte id pg a).2]) ∧ w.grownBy w' none := by
  have k0 := k.hw.at.1
  have HM := Lib.hid (isMade_ok k0)
  cases hp : geA S.ps id with
  | none =>
    have hlk := k.pm.look0 (geA_noids hp) hi
    have e : S.byte id pg a = (0, 7) := by unfold Fl.byte; rw [hp]
    rw [e]
    clear k hp hok
    go_enter Tryz.func21, Tryz.ntmps21
    go_wp2_with fail
    refine HM.out.mono ?_
    rintro e w2 ⟨rfl, rfl⟩
    go_wp2_with fail
    go_ret2
    exact ⟨rfl, grown_refl _ _⟩
  | some p =>
    have hlk := k.pm.look (geA_ids hp) hi
    have HA := Lib.hid (isAt_ok w a)
    have HL := Lib.hid (look_ok17 (k.vw hok hp) pg)
    have HSh := Lib.hid (fun W (g : w.grownBy W none) hi => sheetAt_any (((k.grow g).vw hok hp).lookU pg) a fun _ => hi)
    have HB := Lib.hid (show S.byte id pg a = (if isAtB a = true then (atB (S.look p pg).1 a, (S.look p pg).2) else (0, 2)) by unfold Fl.byte; rw [hp])
    obtain ⟨R, hR⟩ : ∃ R, S.byte id pg a = R := ⟨_, rfl⟩
    rw [hR] at HB ⊢
    generalize (S.look p pg).2 = er at *
    generalize atB (S.look p pg).1 a = v at *
    generalize lookU h S p pg = u at *
    obtain ⟨d, hd⟩ : ∃ d, isAtB a = d := ⟨_, rfl⟩
    rw [hd] at HA HB HSh
    clear k hp hok hR hd
    go_enter Tryz.func21, Tryz.ntmps21
    go_wp2_with fail
    refine HM.out.mono ?_
    rintro e w2 ⟨rfl, rfl⟩
    go_wp2_with fail
    refine HA.out.mono ?_
    rintro e w2 ⟨rfl, rfl⟩
    cases d with
    | false =>
      have HR := Lib.hid (show R = (0, 2) from HB.out)
      clear HB
      go_wp2_with fail
      go_ret2
      exact ⟨by rw [HR.out]; rfl, grown_refl _ _⟩
    | true =>
      have HR := Lib.hid (show R = (v, er) from HB.out)
      clear HB
      go_wp2_with fail
      refine HL.out.mono ?_
      rintro e w3 ⟨rfl, g3⟩
      have HS3 := Lib.hid (HSh.out w3 g3 (by first | trivial | rfl))
      have HG3 := Lib.hid g3
      clear g3 HSh
      go_wp2_with fail
      refine HS3.out.mono ?_
      rintro e w4 ⟨rfl, rfl⟩
      go_wp2_with fail
      go_ret2
      exact ⟨by rw [HR.out]; rfl, HG3.out⟩
end
def lightP (o : FOp) : Prop := (o.k = 1 ∨ o.k = 20) → 1 ≤ o.n → o.n ≤ 4096 → o.n ≤ 40
def pgsO (os : List FOp) : Int := (os.map pgO).sum
theorem pgsO_next {os : List FOp} {q : Nat} {o : FOp} (h : os[q]? = some o) : pgsO (os.take (q + 1)) = pgsO (os.take q) + pgO o := by
  unfold pgsO
  rw [takel_at h, List.map_append, List.sum_append]
  simp
theorem pgsO_le : ∀ (os : List FOp) (q : Nat), 0 ≤ pgsO (os.take q) ∧ pgsO (os.take q) ≤ pgsO os
  | [], q => by simp [pgsO]
  | o :: os, 0 => by
    have := (pgsO_le os os.length).1
    rw [List.take_length] at this
    have := pgO_pos o
    simp only [pgsO, List.take_zero, List.map_nil, List.sum_nil, List.map_cons, List.sum_cons] at *
    omega
  | o :: os, q + 1 => by
    have := pgsO_le os q
    have := pgO_pos o
    simp only [pgsO, List.take_succ_cons, List.map_cons, List.sum_cons] at *
    omega
set_option maxHeartbeats 4000000 in
theorem light_ok {w : World} {s : Option Addr} {l c : Nat} {os : List FOp} (hA : OpsAre w s l os) (m : Int) (hm0 : 0 ≤ m) (hm : m ≤ 100) :
    Calls Tryz.prog 11 #[.slice s l c, .int .i64 m] w fun e w' => ∃ b, e = .returned (.bool b) ∧ w.grownBy w' none ∧ (b = true → os.length ≤ m.toNat ∧ (∀ o, o ∈ os → lightP o) ∧ pgsO os ≤ 200) := by
  have hl := hA.len
  have HA := Lib.hid hA
  clear hA
  by_cases h1 : (l : Int) > m
  · have b1 : decide ((l : Int) > m) = true := decide_eq_true h1
    clear h1
    go_enter Tryz.func11, Tryz.ntmps11
    go_wp2_with fail
    go_ret
    exact ⟨_, rfl, grown_refl _ _, fun h => by cases h⟩
  have b1 : decide ((l : Int) > m) = false := decide_eq_false h1
  have hlm : l ≤ 100 := by omega
  go_enter Tryz.func11, Tryz.ntmps11
  go_wp2_with fail
  go_loopw [5, 14] (fun sv iv wr => ∃ q : Nat, q ≤ l ∧ iv = .int .i64 q ∧ sv = .int .i64 (pgsO (os.take q)) ∧ pgsO (os.take q) ≤ 40 * q ∧ Hid (∀ o, o ∈ os.take q → lightP o) ∧ Hid (w.grownBy wr none)) (fun _ iv _ => l - (intOf iv).toNat)
  case atStart => exact ⟨0, by omega, rfl, rfl, by simp [pgsO], Lib.hid (fun o ho => by simp at ho), Lib.hid (grown_refl _ _)⟩
  case round =>
    obtain ⟨q, hq, rfl, rfl, hb, HP, HG⟩ := hrel
    have hp0 := (pgsO_le os q).1
    by_cases hlt : q < l
    · obtain ⟨o, ho⟩ : ∃ o, os[q]? = some o := ⟨_, List.getElem?_eq_getElem (by omega)⟩
      obtain ⟨g, p0, hs, ha⟩ := HA.out.at HG.out ho
      subst hs
      obtain ⟨c0, c1, c2, c3, c4, c5, c6, c7, c8, c9, c10, c11, c12, c13⟩ := ha
      have hB := OpB.new wr o
      have ga := World.grownBy_alloc wr (.cells #[.int .i64 o.k, .int .i64 o.proc, .int .i64 o.addr, .int .i64 o.n, .int .i64 o.prot, .bool o.sh, .int .i64 o.file, .int .i64 o.off, .bool o.fixed, .int .i64 o.how, .int .i64 o.ati, .int .i64 o.v, .int .i64 o.hd, .int .i64 o.to] 34) none
      have HGa := Lib.hid (grown_trans HG.out ga)
      obtain ⟨d0, -, -, d3, -, -, -, -, -, -, -, -, -, -⟩ := hB.at
      have hnx := pgsO_next ho
      have htk := takel_at ho
      obtain ⟨P, hP⟩ : ∃ P, pgsO (os.take q) = P := ⟨_, rfl⟩
      rw [hP] at hnx hb hp0
      have HPe := Lib.hid hP
      have HNx := Lib.hid hnx
      have HTk := Lib.hid htk
      have HPg := Lib.hid (show pgO o = if (o.k = 1 ∨ o.k = 20) ∧ 1 ≤ o.n ∧ o.n ≤ 4096 then o.n else 0 from rfl)
      clear ga hB ho hnx htk
      by_cases k1 : o.k = 1
      · have e1 : (o.k == 1) = true := by simpa using k1
        have HKk := Lib.hid (show o.k = 1 ∨ o.k = 20 from .inl k1)
        clear k1
        by_cases n0 : o.n > 0
        · have f0 : decide (o.n > 0) = true := decide_eq_true n0
          by_cases n1 : o.n > 40
          · have f1 : decide (o.n > 40) = true := decide_eq_true n1
            have f2 : decide (o.n ≤ 40) = false := decide_eq_false (by omega)
            by_cases n2 : o.n ≤ 4096
            · have f3 : decide (o.n ≤ 4096) = true := decide_eq_true n2
              go_wp2_with fail
              go_ret
              exact ⟨_, rfl, HGa.out, fun h => by cases h⟩
            · have f3 : decide (o.n ≤ 4096) = false := decide_eq_false n2
              have HV := Lib.hid (show pgsO (os.take (q + 1)) = P ∧ lightP o ∧ pgO o ≤ 40 ∧ 0 ≤ pgO o from by
                have e : pgO o = 0 := by rw [HPg.out]; rw [if_neg (by omega)]
                refine ⟨by rw [HNx.out, e]; omega, fun a b c => by omega, by omega, by omega⟩)
              have HP2 := Lib.hid (show ∀ x, x ∈ os.take (q + 1) → lightP x from fun x hx => by
                rw [HTk.out] at hx
                rcases List.mem_append.1 hx with hx | hx
                · exact HP.out x hx
                · rw [List.mem_singleton] at hx; subst hx; exact HV.out.2.1)
              go_wp2_with fail
              go_roundw
              case rel => exact ⟨q + 1, by omega, by go_num, (by rw [HV.out.1]; try rw [HPe.out]), by have h9 := HNx.out; have := HV.out.2.2; omega, HP2, HGa⟩
              case measure => simp [intOf]; omega
          · have f1 : decide (o.n > 40) = false := decide_eq_false n1
            have f2 : decide (o.n ≤ 40) = true := decide_eq_true (by omega)
            have HV := Lib.hid (show pgsO (os.take (q + 1)) = (P + o.n) ∧ lightP o ∧ pgO o ≤ 40 ∧ 0 ≤ pgO o from by
              have e : pgO o = o.n := by rw [HPg.out]; rw [if_pos ⟨HKk.out, by omega, by omega⟩]
              refine ⟨by rw [HNx.out, e], fun a b c => by omega, by omega, by omega⟩)
            have HP2 := Lib.hid (show ∀ x, x ∈ os.take (q + 1) → lightP x from fun x hx => by
              rw [HTk.out] at hx
              rcases List.mem_append.1 hx with hx | hx
              · exact HP.out x hx
              · rw [List.mem_singleton] at hx; subst hx; exact HV.out.2.1)
            go_wp2_with fail
            go_roundw
            case rel => exact ⟨q + 1, by omega, by go_num, (by rw [HV.out.1]; try rw [HPe.out]), by have h9 := HNx.out; have := HV.out.2.2; omega, HP2, HGa⟩
            case measure => simp [intOf]; omega
        · have f0 : decide (o.n > 0) = false := decide_eq_false n0
          have HV := Lib.hid (show pgsO (os.take (q + 1)) = P ∧ lightP o ∧ pgO o ≤ 40 ∧ 0 ≤ pgO o from by
            have e : pgO o = 0 := by rw [HPg.out]; rw [if_neg (by omega)]
            refine ⟨by rw [HNx.out, e]; omega, fun a b c => by omega, by omega, by omega⟩)
          have HP2 := Lib.hid (show ∀ x, x ∈ os.take (q + 1) → lightP x from fun x hx => by
            rw [HTk.out] at hx
            rcases List.mem_append.1 hx with hx | hx
            · exact HP.out x hx
            · rw [List.mem_singleton] at hx; subst hx; exact HV.out.2.1)
          go_wp2_with fail
          go_roundw
          case rel => exact ⟨q + 1, by omega, by go_num, (by rw [HV.out.1]; try rw [HPe.out]), by have h9 := HNx.out; have := HV.out.2.2; omega, HP2, HGa⟩
          case measure => simp [intOf]; omega
      · have e1 : (o.k == 1) = false := by simpa using k1
        by_cases k2 : o.k = 20
        · have e2 : (o.k == 20) = true := by simpa using k2
          have HKk := Lib.hid (show o.k = 1 ∨ o.k = 20 from .inr k2)
          clear k1 k2
          by_cases n0 : o.n > 0
          · have f0 : decide (o.n > 0) = true := decide_eq_true n0
            by_cases n1 : o.n > 40
            · have f1 : decide (o.n > 40) = true := decide_eq_true n1
              have f2 : decide (o.n ≤ 40) = false := decide_eq_false (by omega)
              by_cases n2 : o.n ≤ 4096
              · have f3 : decide (o.n ≤ 4096) = true := decide_eq_true n2
                go_wp2_with fail
                go_ret
                exact ⟨_, rfl, HGa.out, fun h => by cases h⟩
              · have f3 : decide (o.n ≤ 4096) = false := decide_eq_false n2
                have HV := Lib.hid (show pgsO (os.take (q + 1)) = P ∧ lightP o ∧ pgO o ≤ 40 ∧ 0 ≤ pgO o from by
                  have e : pgO o = 0 := by rw [HPg.out]; rw [if_neg (by omega)]
                  refine ⟨by rw [HNx.out, e]; omega, fun a b c => by omega, by omega, by omega⟩)
                have HP2 := Lib.hid (show ∀ x, x ∈ os.take (q + 1) → lightP x from fun x hx => by
                  rw [HTk.out] at hx
                  rcases List.mem_append.1 hx with hx | hx
                  · exact HP.out x hx
                  · rw [List.mem_singleton] at hx; subst hx; exact HV.out.2.1)
                go_wp2_with fail
                go_roundw
                case rel => exact ⟨q + 1, by omega, by go_num, (by rw [HV.out.1]; try rw [HPe.out]), by have h9 := HNx.out; have := HV.out.2.2; omega, HP2, HGa⟩
                case measure => simp [intOf]; omega
            · have f1 : decide (o.n > 40) = false := decide_eq_false n1
              have f2 : decide (o.n ≤ 40) = true := decide_eq_true (by omega)
              have HV := Lib.hid (show pgsO (os.take (q + 1)) = (P + o.n) ∧ lightP o ∧ pgO o ≤ 40 ∧ 0 ≤ pgO o from by
                have e : pgO o = o.n := by rw [HPg.out]; rw [if_pos ⟨HKk.out, by omega, by omega⟩]
                refine ⟨by rw [HNx.out, e], fun a b c => by omega, by omega, by omega⟩)
              have HP2 := Lib.hid (show ∀ x, x ∈ os.take (q + 1) → lightP x from fun x hx => by
                rw [HTk.out] at hx
                rcases List.mem_append.1 hx with hx | hx
                · exact HP.out x hx
                · rw [List.mem_singleton] at hx; subst hx; exact HV.out.2.1)
              go_wp2_with fail
              go_roundw
              case rel => exact ⟨q + 1, by omega, by go_num, (by rw [HV.out.1]; try rw [HPe.out]), by have h9 := HNx.out; have := HV.out.2.2; omega, HP2, HGa⟩
              case measure => simp [intOf]; omega
          · have f0 : decide (o.n > 0) = false := decide_eq_false n0
            have HV := Lib.hid (show pgsO (os.take (q + 1)) = P ∧ lightP o ∧ pgO o ≤ 40 ∧ 0 ≤ pgO o from by
              have e : pgO o = 0 := by rw [HPg.out]; rw [if_neg (by omega)]
              refine ⟨by rw [HNx.out, e]; omega, fun a b c => by omega, by omega, by omega⟩)
            have HP2 := Lib.hid (show ∀ x, x ∈ os.take (q + 1) → lightP x from fun x hx => by
              rw [HTk.out] at hx
              rcases List.mem_append.1 hx with hx | hx
              · exact HP.out x hx
              · rw [List.mem_singleton] at hx; subst hx; exact HV.out.2.1)
            go_wp2_with fail
            go_roundw
            case rel => exact ⟨q + 1, by omega, by go_num, (by rw [HV.out.1]; try rw [HPe.out]), by have h9 := HNx.out; have := HV.out.2.2; omega, HP2, HGa⟩
            case measure => simp [intOf]; omega
        · have e2 : (o.k == 20) = false := by simpa using k2
          have HKn := Lib.hid (show ¬ (o.k = 1 ∨ o.k = 20) from fun e => e.elim k1 k2)
          clear k1 k2
          have HV := Lib.hid (show pgsO (os.take (q + 1)) = P ∧ lightP o ∧ pgO o ≤ 40 ∧ 0 ≤ pgO o from by
            have e : pgO o = 0 := by rw [HPg.out]; rw [if_neg (fun x => HKn.out x.1)]
            refine ⟨by rw [HNx.out, e]; omega, fun a => (HKn.out a).elim, by omega, by omega⟩)
          have HP2 := Lib.hid (show ∀ x, x ∈ os.take (q + 1) → lightP x from fun x hx => by
            rw [HTk.out] at hx
            rcases List.mem_append.1 hx with hx | hx
            · exact HP.out x hx
            · rw [List.mem_singleton] at hx; subst hx; exact HV.out.2.1)
          go_wp2_with fail
          go_roundw
          case rel => exact ⟨q + 1, by omega, by go_num, (by rw [HV.out.1]; try rw [HPe.out]), by have h9 := HNx.out; have := HV.out.2.2; omega, HP2, HGa⟩
          case measure => simp [intOf]; omega
    · obtain rfl : q = l := by omega
      have hos : os.take q = os := List.take_of_length_le (by omega)
      rw [hos] at hb HP hp0
      by_cases h2 : pgsO os ≤ 200
      · have b2 : decide (pgsO os ≤ 200) = true := decide_eq_true h2
        have H2 := Lib.hid h2
        clear h2
        try simp only [hos]
        go_wp2_with fail
        go_ret
        exact ⟨_, rfl, HG.out, fun _ => ⟨by omega, HP.out, H2.out⟩⟩
      · have b2 : decide (pgsO os ≤ 200) = false := decide_eq_false h2
        clear h2
        try simp only [hos]
        go_wp2_with fail
        go_ret
        exact ⟨_, rfl, HG.out, fun h => by cases h⟩
end Go.Proofs.YtefiiooibbkffaaGreat

namespace Go.Proofs.YtefiiooibbkffaaGreat
open Go.ChangeShapes Go.WideShapes Go.ChangeAt Go.RowKit Go.Deep Go.Sort
set_option linter.unusedVariables false
set_option linter.unusedSimpArgs false

def runF (S : Fl) (os : List FOp) : Fl := os.foldl (fun S o => (S.act o).S) S
theorem runF_next {S : Fl} {os : List FOp} {q : Nat} {o : FOp} (h : os[q]? = some o) : runF S (os.take (q + 1)) = ((runF S (os.take q)).act o).S := by
  unfold runF
  rw [takel_at h, List.foldl_append]
  rfl
theorem si_new : SI (newF [3, 2]) 0 0 := by
  refine ⟨⟨fun q hq => ?_, fun q hq a ha => ?_, by decide, fun q hq => ?_⟩, ⟨by decide, fun n hn => ?_, by decide, by decide, by decide, by decide⟩⟩
  · simp only [newF, List.mem_singleton] at hq
    subst hq
    exact ⟨⟨mapL_nil, Int.le_refl _, fun x hx => by cases hx⟩, by decide⟩
  · simp only [newF, List.mem_singleton] at hq
    subst hq
    cases ha
  · simp only [newF, List.mem_singleton] at hq
    subst hq
    exact ⟨by decide, by decide⟩
  · simp only [newF] at hn
    rcases List.mem_cons.1 hn with rfl | hn
    · exact ⟨by decide, by decide⟩
    · rw [List.mem_singleton] at hn; subst hn; exact ⟨by decide, by decide⟩
theorem SI.run {S : Fl} {j : Nat} {n : Int} (h : SI S j n) (hn0 : 0 ≤ n) {os : List FOp} (hn : n + pgsO os ≤ 490) : ∀ q, q ≤ os.length → SI (runF S (os.take q)) (j + q) (n + pgsO (os.take q))
  | 0, _ => by simpa [runF, pgsO] using h
  | q + 1, hq => by
    obtain ⟨o, ho⟩ : ∃ o, os[q]? = some o := ⟨_, List.getElem?_eq_getElem (by omega)⟩
    have h1 := SI.run h hn0 hn q (by omega)
    have h2 := pgsO_le os q
    rw [runF_next ho, pgsO_next ho, ← Int.add_assoc]
    exact h1.act (by omega) (by omega)
end Go.Proofs.YtefiiooibbkffaaGreat

namespace Go.Proofs.YtefiiooibbkffaaGreat
open Go.ChangeShapes Go.WideShapes Go.ChangeAt Go.RowKit Go.Deep Go.Sort
set_option linter.unusedVariables false
set_option linter.unusedSimpArgs false

section
variable {S : Fl} {p : Pr} {o : FOp} {x : Int} {b : Option (List UInt8)}
end
theorem OpsAre.grow {w w' : World} {s : Option Addr} {l : Nat} {os : List FOp} (h : OpsAre w s l os) (g : w.grownBy w' none) : OpsAre w' s l os := ⟨h.len, h.cells.imp id fun ⟨b, p, hs, hc⟩ => ⟨b, p, hs, fun i A hA j u hu => (World.cell?_of_block (a := ⟨b, p + i * 14 + j, none⟩) (g.block b (World.block_lt_of_cell? w _ (hc i A hA j u hu)) (by simp))).trans (hc i A hA j u hu)⟩, h.ok⟩
theorem St.grow {w0 w w' : World} {S : Fl} {r : Nat} {A : List (Nat × Int × Int)} (h : St w0 w S r A) (g : w.grownBy w' none) : St w0 w' S r A := by
  obtain ⟨kd, h, f, ha, c⟩ := h
  exact ⟨kd, h, f.grow g, fun a hm => (ha a hm).ch (R := noRo) (Ch.grown g) (no_ro _), c.trans (Ch.grown g)⟩
theorem St.run {w0 w : World} {S S' : Fl} {r : Nat} {A : List (Nat × Int × Int)} (h : St w0 w S r A) {f : FuncId} {args : Array Value} {v : Value}
    (hs : ∀ kd h, FW w kd 0 r h S → Calls Tryz.prog f args w fun e w' => e = .returned v ∧ Dn 0 r kd w w' S') :
    Calls Tryz.prog f args w fun e w' => e = .returned v ∧ St w0 w' S' r A := by
  obtain ⟨kd, h, f, ha, c⟩ := h
  exact (hs kd h f).mono fun e w' ⟨h1, kd2, h2, f2, c2⟩ => ⟨h1, kd2, h2, f2, fun a hm => (ha a hm).ch c2 own_no, c.trans c2⟩
theorem St.at {w0 w : World} {S : Fl} {r : Nat} {A : List (Nat × Int × Int)} (h : St w0 w S r A) {a : Nat × Int × Int} (hm : a ∈ A) : w.cell? ⟨a.1, 0, none⟩ = some (.int .i64 a.2.1) ∧ w.cell? ⟨a.1, 1, none⟩ = some (.int .i64 a.2.2) := by
  obtain ⟨kd, h, f, ha, c⟩ := h
  exact ⟨(ha a hm).c0, (ha a hm).c1⟩
end Go.Proofs.YtefiiooibbkffaaGreat
