/- Layer 17 (landed): a world in memory: which block is for what, sheets, slots, processes, and what stays when others turn. Layer 17 (landed): small questions; a sheet's byte, a sheet with another byte. Layer 17 (landed): a sheet with another byte. Layer 17 (landed): whether there is such a file, what stands at a spot, what a page means. Layer 17 (landed): what stands at a spot. Layer 17 (landed): what a page means. Layer 17 (landed): a page's bytes; whether they may be reached; a byte that is loaded. Layer 17: an operation in memory. -/
import Derived.Test.YtefiiooibbkffaaGreatFlMapV
import Derived.Test.YtefiiooibbkffaaGreatFlList
import Derived.Test.YtefiiooibbkffaaGreatVmpLc
import Derived.Deep.WholeRow
import Derived.DeepKeys4
import Derived.ChangeKeysEq
import Derived.Test.YtefiiooibbkffaaGreatEyRefA
import Derived.Deep.MidRow
import Derived.Test.YtefiiooibbkffaaGreatVmpFacts
import Derived.Deep.RegionHeld3
namespace Go.Proofs.YtefiiooibbkffaaGreat
open Go.ChangeShapes Go.WideShapes Go.ChangeAt Go.RowKit Go.Deep
open Go.Maps (Keyed)
open Extern.Stop (cell)
set_option linter.unusedVariables false
set_option linter.unusedSectionVars false

/-! ### keys -/
theorem laid17 : laidOutB Tryz.prog = true := by kernel_rfl
theorem spot_keyed : Keyed Tryz.prog 153 := Keyed.of_law (deep_law_laid laid17 (m := 2) (by omega) (of_decide_eq_true (by kernel_rfl)) (by kernel_rfl) (by rw [Tryz.underlying153]))
def spotV (k : Int × Int) : Value := .agg #[.int .i64 k.1, .int .i64 k.2]
def spotL (k : Int × Int) : Lit := .string (keyBytes [.int .i64 k.1, .int .i64 k.2])
theorem wf_okI {x : Int} (h : okI x) : (Lit.int .i64 x).wf = true := by
  have h1 := h.1
  have h2 := h.2
  simp [Lit.wf, IntKind.min, IntKind.max, IntKind.signed, IntKind.bits]
  omega
def okK (k : Int × Int) : Prop := okI k.1 ∧ okI k.2
theorem spot_key {k : Int × Int} (h : okK k) : keyOf Tryz.prog 153 (spotV k) = some (spotL k) := by
  have hkt : Tryz.prog.keyType 153 = true := by kernel_rfl
  have hcs : Tryz.prog.cellsOf 153 = 2 := by kernel_rfl
  have hci : Tryz.prog.cellsOf 3 = 1 := by kernel_rfl
  obtain ⟨m, hm⟩ : ∃ m, Tryz.prog.types.size = m + 1 := ⟨Tryz.prog.types.size - 1, by have : 0 < Tryz.prog.types.size := of_decide_eq_true (by kernel_rfl); omega⟩
  have w1 := wf_okI h.1
  have w2 := wf_okI h.2
  unfold keyOf spotV spotL
  simp only [Tryz.underlying153]
  rw [if_pos (by simp [hkt, Value.formed, Tryz.underlying153, hcs]), hm]
  unfold Program.keyLits
  simp only [Tryz.underlying153, Value.cells]
  rw [if_pos (by simp [hcs])]
  simp [hci, Program.keyLits, Tryz.underlying3, w1, w2]
theorem spotL_inj (x y : Int × Int) (hx : okK x) (hy : okK y) (h : spotL x = spotL y) : x = y := by
  have e : spotV x = spotV y := spot_keyed.inj (spot_key hx) (by rw [spot_key hy, h])
  unfold spotV at e
  simp only [Value.agg.injEq, Array.mk.injEq, List.cons.injEq, Value.int.injEq, true_and, and_true] at e
  exact Prod.ext e.1 e.2
def kvI (x : Int) : Value := Value.int .i64 x
def klI (x : Int) : Lit := .int .i64 x
def okW (x : Int) : Prop := (Lit.int .i64 x).wf = true
theorem okW_of {x : Int} (h : okI x) : okW x := wf_okI h
theorem lawsS : KeyLaws Tryz.prog 3 106 156 (.pointer none) kvI klI okW where
  keyed := Maps.int_keyed Tryz.underlying3
  key x h := Maps.keyOf_int_mk Tryz.underlying3 h
  inj x y _ _ h := by simpa [klI] using h
  und := Tryz.underlying106
  zero := fun w => by kernel_rfl
theorem lawsP : KeyLaws Tryz.prog 3 52 68 (.pointer none) kvI klI okW where
  keyed := Maps.int_keyed Tryz.underlying3
  key x h := Maps.keyOf_int_mk Tryz.underlying3 h
  inj x y _ _ h := by simpa [klI] using h
  und := Tryz.underlying52
  zero := fun w => by kernel_rfl
theorem lawsH : KeyLaws Tryz.prog 3 56 95 (.pointer none) kvI klI okW where
  keyed := Maps.int_keyed Tryz.underlying3
  key x h := Maps.keyOf_int_mk Tryz.underlying3 h
  inj x y _ _ h := by simpa [klI] using h
  und := Tryz.underlying56
  zero := fun w => by kernel_rfl
theorem lawsF : KeyLaws Tryz.prog 153 53 95 (.pointer none) spotV spotL okK where
  keyed := spot_keyed
  key x h := spot_key h
  inj := spotL_inj
  und := Tryz.underlying53
  zero := fun w => by kernel_rfl

/-! ### what blocks are for -/
inductive Rx where
  | head | pm | fm | lm | sz
  | pb (id : Int) | vm (id : Int) | vr (id : Int) | sm (id : Int) | sl (s : Nat)
inductive Ro where
  | no | sh
  | w (t : Nat) (x : Rx)
/-- Only blocks of some sorts have turned; what blocks are for stays. -/
structure Ch (R : Ro → Prop) (kd kd' : Nat → Ro) (w w' : World) : Prop where
  os : w'.os = w.os
  tape : w'.tape = w.tape
  output : w'.output = w.output
  size : w.heap.size ≤ w'.heap.size
  block : ∀ b, b < w.heap.size → ¬ R (kd b) → w'.heap[b]? = w.heap[b]?
  kd : ∀ b, b < w.heap.size → kd' b = kd b
section
variable {R R' : Ro → Prop} {kd kd' kd2 : Nat → Ro} {w w' w2 : World}
theorem Ch.refl (R : Ro → Prop) (kd : Nat → Ro) (w : World) : Ch R kd kd w w := ⟨rfl, rfl, rfl, Nat.le_refl _, fun _ _ _ => rfl, fun _ _ => rfl⟩
theorem Ch.grown (g : w.grownBy w' none) : Ch R kd kd w w' := ⟨g.os, g.tape, g.output, g.size, fun b hb _ => g.block b hb (by simp), fun _ _ => rfl⟩
theorem Ch.turn {O : List Nat} (t : Turn O w w') (h : ∀ b, b ∈ O → b < w.heap.size → R (kd b)) : Ch R kd kd w w' := ⟨t.os, t.tape, t.output, t.size, fun b hb hr => t.block b hb fun hm => hr (h b hm hb), fun _ _ => rfl⟩
theorem Ch.one {x : Nat} (g : w.grownBy w' (some x)) (h : R (kd x)) : Ch R kd kd w w' := ⟨g.os, g.tape, g.output, g.size, fun b hb hr => g.block b hb fun e => hr (by rw [Option.some.inj e]; exact h), fun _ _ => rfl⟩
theorem Ch.trans (h : Ch R kd kd' w w') (k : Ch R kd' kd2 w' w2) : Ch R kd kd2 w w2 :=
  ⟨k.os.trans h.os, k.tape.trans h.tape, k.output.trans h.output, Nat.le_trans h.size k.size, fun b hb hr => (k.block b (Nat.lt_of_lt_of_le hb h.size) (by rw [h.kd b hb]; exact hr)).trans (h.block b hb hr), fun b hb => (k.kd b (Nat.lt_of_lt_of_le hb h.size)).trans (h.kd b hb)⟩
theorem Ch.mono (h : Ch R kd kd' w w') (hr : ∀ x, R x → R' x) : Ch R' kd kd' w w' := ⟨h.os, h.tape, h.output, h.size, fun b hb hn => h.block b hb fun k => hn (hr _ k), h.kd⟩
/-- What new blocks are for. -/
theorem Ch.name (h : Ch R kd kd' w w') {f : Nat → Ro} (hf : ∀ b, b < w.heap.size → f b = kd b) : Ch R kd f w w' := ⟨h.os, h.tape, h.output, h.size, h.block, hf⟩
theorem Ch.below (h : Ch R kd kd' w w') (hr : ∀ b, b < w.heap.size → ¬ R (kd b)) : Below w.heap.size w w' := ⟨h.os, h.tape, h.output, h.size, fun b hb => h.block b hb (hr b hb)⟩
theorem Ch.noGrown (h : Ch R kd kd' w w') (hr : ∀ b, b < w.heap.size → ¬ R (kd b)) : w.grownBy w' none := ⟨h.os, h.tape, h.output, h.size, fun b hb _ => h.block b hb (hr b hb)⟩
end
def noRo (_ : Ro) : Prop := False
def own (t : Nat) (ρ : Ro) : Prop := ∃ x, ρ = .w t x

/-! ### sheets -/
def pgC (p : List UInt8) : Array Value := (p.map cell).toArray
theorem pgC_size {p : List UInt8} (h : p.length = 4096) : (pgC p).size = 4096 := by simp [pgC, h]
theorem pgC_one (p : List UInt8) : (pgC p).all (·.oneCell') = true := by
  rw [Array.all_eq_true]
  intro i hi
  simp [pgC, cell, Value.oneCell']
theorem pgC_at (p : List UInt8) {i : Nat} (hi : i < p.length) : (pgC p)[i]? = some (.int .u8 (p.getD i 0).toNat) := by
  simp [pgC, cell, hi]
theorem pgC_set (p : List UInt8) (i : Nat) (x : UInt8) : (pgC p).setIfInBounds i (.int .u8 x.toNat) = pgC (p.set i x) := by
  simp [pgC, cell, List.map_set]
/-- A pointer to a sheet, or nil. -/
def Sh (w : World) (kd : Nat → Ro) (u : Value) (b : Option (List UInt8)) : Prop := (u = .pointer none ∧ b = none) ∨ ∃ g l, u = .pointer (some ⟨g, 0, none⟩) ∧ b = some l ∧ l.length = 4096 ∧ kd g = .sh ∧ w.heap[g]? = some (.cells (pgC l) 207 (0, 0))
section
variable {R : Ro → Prop} {kd kd' : Nat → Ro} {w w' : World} {u : Value} {b : Option (List UInt8)}
theorem heap_lt {w : World} {g : Nat} {o : Obj} (h : w.heap[g]? = some o) : g < w.heap.size := (Array.getElem?_eq_some_iff.1 h).1
theorem Sh.ch (h : Sh w kd u b) (c : Ch R kd kd' w w') (hr : ¬ R .sh) : Sh w' kd' u b := by
  rcases h with h | ⟨g, l, h1, h2, h3, h4, h5⟩
  · exact .inl h
  · exact .inr ⟨g, l, h1, h2, h3, (c.kd g (heap_lt h5)).trans h4, (c.block g (heap_lt h5) (by rw [h4]; exact hr)).trans h5⟩
theorem Sh.none_ (w : World) (kd : Nat → Ro) : Sh w kd (.pointer none) none := .inl ⟨rfl, rfl⟩
theorem Sh.nil (h : Sh w kd (.pointer none) b) : b = none := by
  rcases h with h | ⟨g, l, h1, _⟩
  · exact h.2
  · cases h1
theorem Sh.form (h : Sh w kd u b) : ∃ p, u = .pointer p ∧ p.isNone = b.isNone := by
  rcases h with ⟨rfl, rfl⟩ | ⟨g, l, rfl, rfl, _⟩
  · exact ⟨_, rfl, rfl⟩
  · exact ⟨_, rfl, rfl⟩
end
/-- A slot's box. -/
structure SlA (w : World) (kd : Nat → Ro) (t : Nat) (g : Nat) (s : Nat) (u : Value) (b : Option (List UInt8)) : Prop where
  ks : kd g = .w t (.sl s)
  hb : w.heap[g]? = some (.cells #[u] 158 (0, 0))
  sh : Sh w kd u b
theorem SlA.ch {R : Ro → Prop} {kd kd' : Nat → Ro} {w w' : World} {t g s : Nat} {u : Value} {b : Option (List UInt8)} (h : SlA w kd t g s u b) (c : Ch R kd kd' w w') (hr : ¬ R .sh) (h2 : ¬ R (.w t (.sl s))) : SlA w' kd' t g s u b :=
  ⟨(c.kd g (heap_lt h.hb)).trans h.ks, (c.block g (heap_lt h.hb) (by rw [h.ks]; exact h2)).trans h.hb, h.sh.ch c hr⟩
theorem SlA.at {w : World} {kd : Nat → Ro} {t g s : Nat} {u : Value} {b : Option (List UInt8)} (h : SlA w kd t g s u b) : w.cell? ⟨g, 0, none⟩ = some u := by rw [cell_of_row _ _ _ _ _ _ h.hb]; rfl

/-! ### processes -/
structure PG where
  b : Nat
  m : Nat
  sm : Nat
  v : Value
/-- A process in memory. -/
structure PAt (w : World) (kd : Nat → Ro) (t : Nat) (G : PG) (id : Int) (ι : Nat → Nat) (p : Pr) : Prop where
  hb : w.heap[G.b]? = some (.cells #[.pointer (some ⟨G.m, 0, none⟩), .map (some G.sm)] 108 (0, 0))
  kb : kd G.b = .w t (.pb id)
  vm : VM w G.m G.v p.L
  km : kd G.m = .w t (.vm id)
  kv : ∀ b, G.v.ownBlock = some b → kd b = .w t (.vr id)
  sm : MapV Tryz.prog 3 klI okW w G.sm (p.A.map fun a => (a.1, .pointer (some ⟨ι a.2, 0, none⟩)))
  ks : kd G.sm = .w t (.sm id)
section
variable {R : Ro → Prop} {kd kd' : Nat → Ro} {w w' : World} {t : Nat} {G : PG} {id : Int} {ι : Nat → Nat} {p : Pr}
theorem PAt.ch (h : PAt w kd t G id ι p) (c : Ch R kd kd' w w') (h1 : ¬ R (.w t (.pb id))) (h2 : ¬ R (.w t (.vm id))) (h3 : ¬ R (.w t (.vr id))) (h4 : ¬ R (.w t (.sm id))) : PAt w' kd' t G id ι p where
  hb := (c.block _ (heap_lt h.hb) (by rw [h.kb]; exact h1)).trans h.hb
  kb := (c.kd _ (heap_lt h.hb)).trans h.kb
  vm := ⟨(c.block _ h.vm.lt (by rw [h.km]; exact h2)).trans h.vm.head, OwnOf.kept h.vm.own fun b hb => c.block b (OwnOf.lt h.vm.own hb).2 (by rw [h.kv b hb]; exact h3)⟩
  km := (c.kd _ h.vm.lt).trans h.km
  kv := fun b hb => (c.kd _ (OwnOf.lt h.vm.own hb).2).trans (h.kv b hb)
  sm := h.sm.kept (c.block _ h.sm.lt (by rw [h.ks]; exact h4))
  ks := (c.kd _ h.sm.lt).trans h.ks
theorem PAt.at0 (h : PAt w kd t G id ι p) : w.cell? ⟨G.b, 0, none⟩ = some (.pointer (some ⟨G.m, 0, none⟩)) := by rw [cell_of_row _ _ _ _ _ _ h.hb]; rfl
theorem PAt.at1 (h : PAt w kd t G id ι p) : w.cell? ⟨G.b, 1, none⟩ = some (.map (some G.sm)) := by rw [cell_of_row _ _ _ _ _ _ h.hb]; rfl
end
/-- Processes in memory, and the slots that they have. -/
structure BW (w : World) (kd : Nat → Ro) (t : Nat) (g : Int → PG) (ι : Nat → Nat) (sp : Nat → Value) (c : Nat → Option (List UInt8)) (qs : List (Int × Pr)) : Prop where
  nd : (qs.map (·.1)).Nodup
  pr : ∀ q, q ∈ qs → PAt w kd t (g q.1) q.1 ι q.2
  sl : ∀ q, q ∈ qs → ∀ a, a ∈ q.2.A → SlA w kd t (ι a.2) a.2 (sp a.2) (c a.2)
section
variable {R : Ro → Prop} {kd kd' : Nat → Ro} {w w' : World} {t : Nat} {g : Int → PG} {ι : Nat → Nat} {sp : Nat → Value} {c : Nat → Option (List UInt8)} {qs : List (Int × Pr)}
theorem BW.ch (h : BW w kd t g ι sp c qs) (k : Ch R kd kd' w w') (h0 : ¬ R .sh) (h1 : ∀ x, ¬ R (.w t (.pb x))) (h2 : ∀ x, ¬ R (.w t (.vm x))) (h3 : ∀ x, ¬ R (.w t (.vr x))) (h4 : ∀ x, ¬ R (.w t (.sm x))) (h5 : ∀ x, ¬ R (.w t (.sl x))) : BW w' kd' t g ι sp c qs :=
  ⟨h.nd, fun q hq => (h.pr q hq).ch k (h1 _) (h2 _) (h3 _) (h4 _), fun q hq a ha => (h.sl q hq a ha).ch k h0 (h5 _)⟩
theorem BW.get (h : BW w kd t g ι sp c qs) {id : Int} {p : Pr} (hp : geA qs id = some p) : PAt w kd t (g id) id ι p := h.pr _ (geA_some hp)
end

/-! ### worlds -/
structure Gh where
  pm : Nat
  fm : Nat
  lm : Nat
  sv : Value
  fv : Int × Int → Value
  hv : Int → Value
  g : Int → PG
  ι : Nat → Nat
  sp : Nat → Value
/-- A world's own blocks. -/
structure HW (w : World) (kd : Nat → Ro) (t r : Nat) (h : Gh) (sz : List Int) (F : List ((Int × Int) × List UInt8)) (H : List (Int × Option (List UInt8))) (reg : Int) : Prop where
  head : w.heap[r]? = some (.cells #[.map (some h.pm), h.sv, .map (some h.fm), .map (some h.lm), .int .i64 reg] 58 (0, 0))
  kr : kd r = .w t .head
  sz : ZOwn w 0 h.sv sz
  kz : ∀ b, h.sv.ownBlock = some b → kd b = .w t .sz
  fm : MapV Tryz.prog 153 spotL okK w h.fm (F.map fun n => (n.1, h.fv n.1))
  kf : kd h.fm = .w t .fm
  fs : ∀ n, n ∈ F → Sh w kd (h.fv n.1) (some n.2)
  lm : MapV Tryz.prog 3 klI okW w h.lm (H.map fun n => (n.1, h.hv n.1))
  kl : kd h.lm = .w t .lm
  ls : ∀ n, n ∈ H → Sh w kd (h.hv n.1) n.2
section
variable {R : Ro → Prop} {kd kd' : Nat → Ro} {w w' : World} {t r : Nat} {h : Gh} {sz : List Int} {F : List ((Int × Int) × List UInt8)} {H : List (Int × Option (List UInt8))} {reg : Int}
theorem HW.ch (k : HW w kd t r h sz F H reg) (c : Ch R kd kd' w w') (h0 : ¬ R .sh) (h1 : ¬ R (.w t .head)) (h2 : ¬ R (.w t .sz)) (h3 : ¬ R (.w t .fm)) (h4 : ¬ R (.w t .lm)) : HW w' kd' t r h sz F H reg where
  head := (c.block _ (heap_lt k.head) (by rw [k.kr]; exact h1)).trans k.head
  kr := (c.kd _ (heap_lt k.head)).trans k.kr
  sz := OwnOf.kept k.sz fun b hb => c.block b (OwnOf.lt k.sz hb).2 (by rw [k.kz b hb]; exact h2)
  kz := fun b hb => (c.kd _ (OwnOf.lt k.sz hb).2).trans (k.kz b hb)
  fm := k.fm.kept (c.block _ k.fm.lt (by rw [k.kf]; exact h3))
  kf := (c.kd _ k.fm.lt).trans k.kf
  fs := fun n hn => (k.fs n hn).ch c h0
  lm := k.lm.kept (c.block _ k.lm.lt (by rw [k.kl]; exact h4))
  kl := (c.kd _ k.lm.lt).trans k.kl
  ls := fun n hn => (k.ls n hn).ch c h0
theorem HW.at (k : HW w kd t r h sz F H reg) : w.cell? ⟨r, 0, none⟩ = some (.map (some h.pm)) ∧ w.cell? ⟨r, 1, none⟩ = some h.sv ∧ w.cell? ⟨r, 2, none⟩ = some (.map (some h.fm)) ∧ w.cell? ⟨r, 3, none⟩ = some (.map (some h.lm)) ∧ w.cell? ⟨r, 4, none⟩ = some (.int .i64 reg) := by
  refine ⟨?_, ?_, ?_, ?_, ?_⟩ <;> (rw [cell_of_row _ _ _ _ _ _ k.head]; rfl)
theorem HW.frozen (k : HW w kd t r h sz F H reg) (o : Nat) : w.frozen? ⟨r, o, none⟩ = false := frozen_of_row _ _ _ _ _ k.head
end
/-- The map of processes. -/
structure PM (w : World) (kd : Nat → Ro) (t : Nat) (h : Gh) (ids : List Int) : Prop where
  pm : MapV Tryz.prog 3 klI okW w h.pm (ids.map fun id => (id, .pointer (some ⟨(h.g id).b, 0, none⟩)))
  kp : kd h.pm = .w t .pm
theorem PM.ch {R : Ro → Prop} {kd kd' : Nat → Ro} {w w' : World} {t : Nat} {h : Gh} {ids : List Int} (k : PM w kd t h ids) (c : Ch R kd kd' w w') (h1 : ¬ R (.w t .pm)) : PM w' kd' t h ids :=
  ⟨k.pm.kept (c.block _ k.pm.lt (by rw [k.kp]; exact h1)), (c.kd _ k.pm.lt).trans k.kp⟩
/-- A world in memory. -/
structure FW (w : World) (kd : Nat → Ro) (t r : Nat) (h : Gh) (S : Fl) : Prop where
  hw : HW w kd t r h S.sz S.F S.H S.reg
  pm : PM w kd t h (S.ps.map (·.1))
  bw : BW w kd t h.g h.ι h.sp S.c S.ps
section
variable {R : Ro → Prop} {kd kd' : Nat → Ro} {w w' : World} {t t2 r : Nat} {h : Gh} {S : Fl}
/-- Another world's doing leaves it. -/
theorem FW.ch (k : FW w kd t r h S) (c : Ch R kd kd' w w') (h0 : ¬ R .sh) (h1 : ∀ x, ¬ R (.w t x)) : FW w' kd' t r h S :=
  ⟨k.hw.ch c h0 (h1 _) (h1 _) (h1 _) (h1 _), k.pm.ch c (h1 _), k.bw.ch c h0 (fun _ => h1 _) (fun _ => h1 _) (fun _ => h1 _) (fun _ => h1 _) (fun _ => h1 _)⟩
theorem FW.other (k : FW w kd t r h S) (c : Ch (own t2) kd kd' w w') (ht : t ≠ t2) : FW w' kd' t r h S :=
  k.ch c (fun ⟨x, e⟩ => by cases e) fun x ⟨y, e⟩ => by injection e with e1 e2; exact ht e1
theorem FW.grow (k : FW w kd t r h S) (g : w.grownBy w' none) : FW w' kd t r h S := k.ch (R := noRo) (Ch.grown g) id fun _ => id
end
end Go.Proofs.YtefiiooibbkffaaGreat

namespace Go.Proofs.YtefiiooibbkffaaGreat
open Go.ChangeShapes Go.WideShapes Go.ChangeAt Go.RowKit Go.Deep
open Extern.Stop (cell)
set_option linter.unusedVariables false
set_option linter.unusedSimpArgs false

theorem isAt_ok (w : World) (i : Int) : Calls Tryz.prog 57 #[.int .i64 i] w fun e w' => e = .returned (.bool (isAtB i)) ∧ w' = w := by
  unfold isAtB
  by_cases h1 : 0 ≤ i
  · have b1 : decide (i ≥ 0) = true := decide_eq_true h1
    rw [show decide (0 ≤ i ∧ i < 4096) = decide (i < 4096) by rw [decide_eq_decide]; omega]
    go_enter Tryz.func57, Tryz.ntmps57
    go_wp2_with fail
    go_ret
    exact ⟨rfl, rfl⟩
  · have b1 : decide (i ≥ 0) = false := decide_eq_false h1
    rw [show decide (0 ≤ i ∧ i < 4096) = false from decide_eq_false (by omega)]
    go_enter Tryz.func57, Tryz.ntmps57
    go_wp2_with fail
    go_ret
    exact ⟨rfl, rfl⟩
theorem isByte_ok (w : World) (i : Int) : Calls Tryz.prog 126 #[.int .i64 i] w fun e w' => e = .returned (.bool (isByB i)) ∧ w' = w := by
  unfold isByB
  by_cases h1 : 0 ≤ i
  · have b1 : decide (i ≥ 0) = true := decide_eq_true h1
    rw [show decide (0 ≤ i ∧ i ≤ 255) = decide (i ≤ 255) by rw [decide_eq_decide]; omega]
    go_enter Tryz.func126, Tryz.ntmps126
    go_wp2_with fail
    go_ret
    exact ⟨rfl, rfl⟩
  · have b1 : decide (i ≥ 0) = false := decide_eq_false h1
    rw [show decide (0 ≤ i ∧ i ≤ 255) = false from decide_eq_false (by omega)]
    go_enter Tryz.func126, Tryz.ntmps126
    go_wp2_with fail
    go_ret
    exact ⟨rfl, rfl⟩
theorem maySize_ok (w : World) (i : Int) : Calls Tryz.prog 28 #[.int .i64 i] w fun e w' => e = .returned (.bool (maySzB i)) ∧ w' = w := by
  unfold maySzB
  by_cases h1 : 0 ≤ i
  · have b1 : decide (i ≥ 0) = true := decide_eq_true h1
    rw [show decide (0 ≤ i ∧ i ≤ 4096) = decide (i ≤ 4096) by rw [decide_eq_decide]; omega]
    go_enter Tryz.func28, Tryz.ntmps28
    go_wp2_with fail
    go_ret
    exact ⟨rfl, rfl⟩
  · have b1 : decide (i ≥ 0) = false := decide_eq_false h1
    rw [show decide (0 ≤ i ∧ i ≤ 4096) = false from decide_eq_false (by omega)]
    go_enter Tryz.func28, Tryz.ntmps28
    go_wp2_with fail
    go_ret
    exact ⟨rfl, rfl⟩
theorem neq_map_nil (w : World) (b : Nat) : (binOp .neq 52 (.map (some b)) (.map none)).run Tryz.prog w = .ok (.bool true) w := by
  have h1 : ∀ d : Nat, (Op.equalIn (d + 1) 52 (.map (some b)) (.map none)).run Tryz.prog w = .ok false w := fun d => by
    simp [Op.equalIn, run_underlying Tryz.underlying52]
  simp only [binOp]
  simp [Op.equal, Op.maxDepth, h1 9999]
theorem isMade_ok {w : World} {r b : Nat} (c0 : w.cell? ⟨r, 0, none⟩ = some (.map (some b))) : Calls Tryz.prog 51 #[.pointer (some ⟨r, 0, none⟩)] w fun e w' => e = .returned (.bool true) ∧ w' = w := by
  have hq := neq_map_nil
  go_enter Tryz.func51, Tryz.ntmps51
  go_wp2_with fail
  go_ret
  exact ⟨rfl, rfl⟩
theorem sheetAt_ok {w : World} {kd : Nat → Ro} {u : Value} {b : Option (List UInt8)} (h : Sh w kd u b) (i : Int) (hi : isAtB i = true) :
    Calls Tryz.prog 59 #[u, .int .i64 i] w fun e w' => e = .returned (.int .i64 (atB b i)) ∧ w' = w := by
  obtain ⟨i0, i1⟩ := of_decide_eq_true hi
  clear hi
  rcases h with ⟨rfl, rfl⟩ | ⟨g, l, rfl, rfl, hl, -, hg⟩
  · unfold atB
    go_enter Tryz.func59, Tryz.ntmps59
    go_wp2_with fail
    go_ret
    exact ⟨rfl, rfl⟩
  · unfold atB
    simp only
    obtain ⟨n, rfl⟩ : ∃ n : Nat, i = n := ⟨i.toNat, by omega⟩
    have hn : n < l.length := by omega
    have c0 : w.cell? ⟨g, n, none⟩ = some (.int .u8 (l.getD n 0).toNat) := by rw [cell_of_row _ _ _ _ _ _ hg]; exact pgC_at l hn
    rw [Int.toNat_natCast]
    have hx := (l.getD n 0).toNat_lt
    generalize (l.getD n 0).toNat = x at *
    clear hg hl
    go_enter Tryz.func59, Tryz.ntmps59
    go_wp2_with fail
    go_ret
    exact ⟨rfl, rfl⟩
end Go.Proofs.YtefiiooibbkffaaGreat

namespace Go.Proofs.YtefiiooibbkffaaGreat
open Go.ChangeShapes Go.WideShapes Go.ChangeAt Go.RowKit Go.Deep
open Extern.Stop (cell)
set_option linter.unusedVariables false
set_option linter.unusedSimpArgs false

theorem zeroPg_length : zeroPg.length = 4096 := List.length_replicate
theorem zero_sheet (w : World) : (zeroValue 207).run Tryz.prog w = .ok (.agg (pgC zeroPg)) w := by kernel_rfl
theorem withB_length {b : Option (List UInt8)} (h : ∀ l, b = some l → l.length = 4096) (i v : Int) : (withB b i v).length = 4096 := by
  unfold withB
  rw [List.length_set]
  cases b with
  | none => exact zeroPg_length
  | some l => exact h l rfl
theorem setCells_new (w : World) (t : TypeId) (Z : Array Value) (vs : List Value) (hl : Z.size = vs.length) (h1 : ∀ v ∈ vs, v.oneCell' = true) : (w.alloc (.cells Z t)).setCells w.heap.size 0 vs = w.alloc (.cells vs.toArray t) := by
  have hg := heap_alloc_new w (.cells Z t)
  have e1 := run_storeCells_at (P := (default : Program)) w.heap.size 0 t vs 0 Z (w.alloc (.cells Z t)) hg (by omega) h1
  have e2 := run_storeCells_cells (P := (default : Program)) w.heap.size 0 vs 0 (w.alloc (.cells Z t)) (fun j hj => by
      rw [cell_of_row _ _ _ _ _ _ hg]; simp; omega) (fun j hj => by rw [frozen_of_row _ _ _ _ _ hg]) h1
  rw [e1] at e2
  simp only [Result.ok.injEq, true_and, Nat.add_zero] at e2
  rw [← e2, World.setRow_alloc_new]
  congr 2
  simp only [Nat.zero_add, List.take_zero, List.nil_append]
  rw [List.drop_eq_nil_of_le (by rw [Array.length_toList]; omega), List.append_nil]
theorem cells_ones (l : List UInt8) : ∀ v ∈ l.map cell, v.oneCell' = true := by
  intro v hv
  obtain ⟨x, -, rfl⟩ := List.mem_map.1 hv
  rfl
theorem u8_of {v : Int} (h0 : 0 ≤ v) (h1 : v ≤ 255) : ((UInt8.ofNat v.toNat).toNat : Int) = v := by
  have : (UInt8.ofNat v.toNat).toNat = v.toNat % 256 := by simp
  omega
theorem info_sheet {n : Nat} (h : n = 4096) : (Tryz.prog.info? 207).map (·.size) = some n := by rw [h]; kernel_rfl
set_option maxRecDepth 100000 in
theorem with_ok {w : World} {kd : Nat → Ro} {u : Value} {b : Option (List UInt8)} (h : Sh w kd u b) (i v : Int) (hi : isAtB i = true) (hv : isByB v = true) :
    Calls Tryz.prog 127 #[u, .int .i64 i, .int .i64 v] w fun e w' => e = .returned (.pointer (some ⟨w.heap.size, 0, none⟩)) ∧ w' = w.alloc (.cells (pgC (withB b i v)) 207) := by
  obtain ⟨i0, i1⟩ := of_decide_eq_true hi
  obtain ⟨v0, v1⟩ := of_decide_eq_true hv
  clear hi hv
  obtain ⟨n, rfl⟩ : ∃ n : Nat, i = n := ⟨i.toNat, by omega⟩
  have hn : n < 4096 := by omega
  have hu8 := u8_of v0 v1
  have hz := zero_sheet
  have hset : ∀ l : List UInt8, (pgC l).setIfInBounds n (.int .u8 v) = pgC (l.set n (UInt8.ofNat v.toNat)) := fun l => by
    rw [← pgC_set, hu8]
  have hnew : ∀ l : List UInt8, l.length = 4096 → ∃ x, (w.alloc (.cells (pgC l) 207)).cell? ⟨w.heap.size, n, none⟩ = some x := fun l hl => ⟨_, by rw [cell_of_row _ _ _ _ _ _ (heap_alloc_new w _)]; exact pgC_at l (by omega)⟩
  have hfr : ∀ l : List UInt8, (w.alloc (.cells (pgC l) 207)).frozen? ⟨w.heap.size, n, none⟩ = false := fun l => frozen_of_row _ _ _ _ _ (heap_alloc_new w _)
  have hwr := IntWalk.u8_in v ⟨v0, v1⟩
  rcases h with ⟨rfl, rfl⟩ | ⟨g, l, rfl, rfl, hl, -, hg⟩
  · have HS := Lib.hid (hset zeroPg)
    obtain ⟨x, hx⟩ := hnew zeroPg zeroPg_length
    have hf := hfr zeroPg
    have HE := Lib.hid (show withB none (n : Int) v = zeroPg.set n (UInt8.ofNat v.toNat) from rfl)
    have hzl := pgC_size zeroPg_length
    rw [HE.out]
    generalize pgC (zeroPg.set n (UInt8.ofNat v.toNat)) = Y at *
    generalize pgC zeroPg = Z at *
    clear hset hnew hfr hu8
    go_enter Tryz.func127, Tryz.ntmps127
    go_wp2_with fail
    go_ret
    exact ⟨rfl, by rw [HS.out]⟩
  · have hne : g ≠ w.heap.size := by have := heap_lt hg; omega
    have HE := Lib.hid (show withB (some l) (n : Int) v = l.set n (UInt8.ofNat v.toNat) from rfl)
    obtain ⟨cs, hcs⟩ : ∃ cs, l.map cell = cs := ⟨_, rfl⟩
    have hX : pgC l = cs.toArray := congrArg List.toArray hcs
    have hcl : cs.length = 4096 := by rw [← hcs, List.length_map, hl]
    have HS := Lib.hid (show cs.toArray.setIfInBounds n (.int .u8 v) = pgC (l.set n (UInt8.ofNat v.toNat)) by rw [← hX]; exact hset l)
    obtain ⟨x, hx⟩ := hnew l hl
    have hf := hfr l
    have HA := Lib.hid (setCells_new w 207 (pgC zeroPg) cs (by rw [pgC_size zeroPg_length, hcl]) (by rw [← hcs]; exact cells_ones l))
    have HI := Lib.hid (info_sheet hcl)
    have HI2 := Lib.hid (info_sheet (n := cs.toArray.size) (by rw [List.size_toArray]; exact hcl))
    have HR := Lib.hid (show (w.alloc (.cells (pgC zeroPg) 207)).rangeAt g 0 cs from fun j u hj => by
      rw [Nat.zero_add, cell_of_row _ _ _ (pgC l) _ (0, 0) ((World.grownBy_alloc w (.cells (pgC zeroPg) 207) none).block g (heap_lt hg) (by simp) |>.trans hg), hX]
      simpa using hj)
    have HT := Lib.hid (show (w.alloc (.cells (pgC zeroPg) 207)).there w.heap.size 0 cs.toArray.size from fun j hj => by
      rw [Nat.zero_add]
      refine ⟨?_, frozen_of_row _ _ _ _ _ (heap_alloc_new w _)⟩
      rw [cell_of_row _ _ _ _ _ _ (heap_alloc_new w _)]
      rw [List.size_toArray, hcl] at hj
      rw [pgC_at zeroPg (by rw [zeroPg_length]; exact hj)]
      rfl)
    have HO := Lib.hid (show cs.toArray.all (·.oneCell') = true by rw [← hX]; exact pgC_one l)
    rw [hX] at hx hf
    rw [HE.out]
    generalize pgC (l.set n (UInt8.ofNat v.toNat)) = Y at *
    generalize pgC zeroPg = Z at *
    clear hset hnew hfr hu8 hg hl hX hcs hcl
    go_enter Tryz.func127, Tryz.ntmps127
    go_wp2_with (first | (refine wpList_load_mid rfl 207 _ rfl g 0 rfl cs _ HR.out Tryz.underlying207 rfl HI.out ?_) | (refine wpList_store_mid rfl 207 _ _ rfl w.heap.size 0 cs.toArray rfl rfl HT.out HI2.out HO.out ?_; rw [List.toList_toArray, HA.out]))
    go_ret
    exact ⟨rfl, by rw [← HS.out, List.setIfInBounds_toArray]⟩
end Go.Proofs.YtefiiooibbkffaaGreat

namespace Go.Proofs.YtefiiooibbkffaaGreat
open Go.ChangeShapes Go.WideShapes Go.ChangeAt Go.RowKit Go.Deep
open Extern.Stop (cell)
set_option linter.unusedVariables false
set_option linter.unusedSimpArgs false

/-- files, by value: sizes and sheets. -/
theorem has_ok (w : World) (s : Option Addr) (c fm : Nat) (sz : List Int) (f : Int) (hl : sz.length ≤ 16) :
    Calls Tryz.prog 115 #[.agg #[.slice s sz.length c, .map (some fm)], .int .i64 f] w fun e w' => e = .returned (.bool (hasF sz f)) ∧ w.grownBy w' none := by
  unfold hasF
  generalize sz.length = n at *
  by_cases h1 : 0 < f
  · have b1 : decide (f > 0) = true := decide_eq_true h1
    have b2 : decide (0 < f) = true := decide_eq_true h1
    rw [b2, Bool.true_and]
    clear b2
    go_enter Tryz.func115, Tryz.ntmps115
    go_wp2_with fail
    go_ret
    exact ⟨rfl, World.grownBy_alloc _ _ _⟩
  · have b1 : decide (f > 0) = false := decide_eq_false h1
    have b2 : decide (0 < f) = false := decide_eq_false h1
    rw [b2, Bool.false_and]
    clear b2
    go_enter Tryz.func115, Tryz.ntmps115
    go_wp2_with fail
    go_ret
    exact ⟨rfl, World.grownBy_alloc _ _ _⟩
theorem heap_second' (w : World) (o o2 : Obj) : ((w.alloc o).alloc o2).heap[w.heap.size + 1]? = some o2 := by
  have h := heap_alloc_new (w.alloc o) o2
  rwa [World.size_alloc] at h
theorem spotOf_ok (w : World) (x : En) (pg : Int) (s0 : 0 ≤ x.s) (s1 : x.s ≤ 1000000000) (o0 : 0 ≤ x.o) (o1 : x.o ≤ 1000000000) (p0 : 0 ≤ pg) (p1 : pg ≤ 1000000000) :
    Calls Tryz.prog 128 #[.agg #[.int .i64 x.s, .int .i64 x.e, .int .i64 x.f, .int .i64 x.o, .bool x.sh, .int .i64 x.p, .int .i64 x.m, .int .i64 x.i, .int .i64 x.a, .bool x.wi], .int .i64 pg] w fun e w' => e = .returned (.agg #[.int .i64 (spotF x pg).1, .int .i64 (spotF x pg).2]) ∧ w.grownBy w' none := by
  obtain ⟨s, e, f, o, sh, p, m, i, a, wi⟩ := x
  unfold spotF
  simp only at *
  go_enter Tryz.func128, Tryz.ntmps128
  go_wp2_with fail
  refine bodyPost_ret (results_cell_row rfl _ _ (w.heap.size + 1) _ #[.int .i64 f, .int .i64 (o + pg - s)] (0, 0) _ rfl (heap_second' w _ _) Tryz.underlying153 (by kernel_rfl) (by kernel_rfl)) rfl ?_
  exact ⟨rfl, grown_trans (World.grownBy_alloc _ _ _) (World.grownBy_alloc _ _ _)⟩
theorem lookV_map {K α : Type} [DecidableEq K] (f : K → α → Value) (N : List (K × α)) (x : K) : lookV (N.map fun n => (n.1, f n.1 n.2)) x = (geA N x).map (f x) := by
  induction N with
  | nil => rfl
  | cons n N ih =>
    obtain ⟨k, a⟩ := n
    rw [geA_cons]
    unfold lookV at ih ⊢
    rw [List.map_cons, List.find?_cons]
    by_cases h : k = x
    · subst h; simp
    · rw [if_neg h]
      simp only [h, decide_false]
      rw [ih]
section
variable {w : World} {kd : Nat → Ro} {t : Nat} {G : PG} {id : Int} {ι : Nat → Nat} {p : Pr} {sp : Nat → Value} {c : Nat → Option (List UInt8)}
/-- 's, ok := p.slots[page]'. -/
theorem PAt.slot2 (h : PAt w kd t G id ι p) {pg : Int} (hp : okI pg) : (Instr.lookup 106 (.map (some G.sm)) (.int .i64 pg) true).run Tryz.prog w = .ok (.tuple #[.pointer ((geA p.A pg).map fun s => ⟨ι s, 0, none⟩), .bool (geA p.A pg).isSome]) w := by
  have h1 := h.sm.look2 lawsS (okW_of hp)
  rw [lookV_map (fun _ a => .pointer (some ⟨ι a, 0, none⟩))] at h1
  rw [show Value.int .i64 pg = kvI pg from rfl, h1]
  cases geA p.A pg <;> rfl
theorem PAt.slot1 (h : PAt w kd t G id ι p) {pg : Int} (hp : okI pg) : (Instr.lookup 106 (.map (some G.sm)) (.int .i64 pg) false).run Tryz.prog w = .ok (.pointer ((geA p.A pg).map fun s => ⟨ι s, 0, none⟩)) w := by
  have h1 := h.sm.look lawsS (zd := .held (.pointer none)) (okW_of hp)
  rw [lookV_map (fun _ a => .pointer (some ⟨ι a, 0, none⟩))] at h1
  rw [show Value.int .i64 pg = kvI pg from rfl, h1]
  cases geA p.A pg <;> rfl
/-- What own tells. -/
def ownV (sp : Nat → Value) (c : Nat → Option (List UInt8)) (p : Pr) (pg : Int) : Value := match geA p.A pg with | none => .pointer none | some s => sp s
theorem ownV_sh (hs : ∀ a, a ∈ p.A → SlA w kd t (ι a.2) a.2 (sp a.2) (c a.2)) (pg : Int) : Sh w kd (ownV sp c p pg) (ownF c p pg) := by
  unfold ownV ownF
  cases hg : geA p.A pg with
  | none => exact Sh.none_ _ _
  | some s => exact (hs _ (geA_some hg)).sh
theorem own_ok (h : PAt w kd t G id ι p) (hs : ∀ a, a ∈ p.A → SlA w kd t (ι a.2) a.2 (sp a.2) (c a.2)) {pg : Int} (hp : okI pg) :
    Calls Tryz.prog 148 #[.pointer (some ⟨G.b, 0, none⟩), .int .i64 pg] w fun e w' => e = .returned (.tuple #[ownV sp c p pg, .bool (ownF c p pg).isSome]) ∧ w' = w := by
  have c1 := h.at1
  have hk := h.slot2 hp
  unfold ownF ownV
  cases hg : geA p.A pg with
  | none =>
    rw [hg] at hk
    simp only [Option.map_none, Option.isSome_none] at hk ⊢
    clear h hs hp
    go_enter Tryz.func148, Tryz.ntmps148
    go_wp2_with fail
    go_ret2
    exact ⟨rfl, rfl⟩
  | some s =>
    have hsl := hs _ (geA_some hg)
    have c0 : w.cell? ⟨ι s, 0, none⟩ = some (sp s) := hsl.at
    have hS := hsl.sh
    simp only at hS
    rw [hg] at hk
    simp only [Option.map_some, Option.isSome_some] at hk ⊢
    obtain ⟨q, hu, hq⟩ := hS.form
    rw [hu] at c0 ⊢
    clear h hs hp hsl hS hg hu
    cases hc : c s with
    | none =>
      obtain rfl : q = none := by rw [hc] at hq; simpa using hq
      clear hq hc
      go_enter Tryz.func148, Tryz.ntmps148
      go_wp2_with fail
      go_ret2
      exact ⟨rfl, rfl⟩
    | some b =>
      obtain ⟨ad, rfl⟩ : ∃ ad, q = some ad := by
        cases q with
        | none => rw [hc] at hq; simp at hq
        | some ad => exact ⟨ad, rfl⟩
      clear hq hc
      go_enter Tryz.func148, Tryz.ntmps148
      go_wp2_with fail
      go_ret2
      exact ⟨rfl, rfl⟩
end
end Go.Proofs.YtefiiooibbkffaaGreat

namespace Go.Proofs.YtefiiooibbkffaaGreat
open Go.ChangeShapes Go.WideShapes Go.ChangeAt Go.RowKit Go.Deep
open Extern.Stop (cell)
open Go.Sort
set_option linter.unusedVariables false
set_option linter.unusedSimpArgs false

section
variable {w : World} {kd : Nat → Ro} {t r : Nat} {h : Gh} {sz : List Int} {F : List ((Int × Int) × List UInt8)} {H : List (Int × Option (List UInt8))} {reg : Int}
theorem HW.grow (k : HW w kd t r h sz F H reg) {w' : World} (g : w.grownBy w' none) : HW w' kd t r h sz F H reg := k.ch (R := noRo) (Ch.grown g) id id id id id
/-- Files by value. -/
def flsV (h : Gh) : Value := .agg #[h.sv, .map (some h.fm)]
/-- 'f.sheets[s]': the pointer. -/
def shP (h : Gh) (F : List ((Int × Int) × List UInt8)) (k : Int × Int) : Value := ((geA F k).map fun _ => h.fv k).getD (.pointer none)
theorem HW.sheet (k : HW w kd t r h sz F H reg) (q : Int × Int) : Sh w kd (shP h F q) (geA F q) := by
  unfold shP
  cases e : geA F q with
  | none => exact Sh.none_ _ _
  | some l => exact k.fs _ (geA_some e)
theorem HW.look1 (k : HW w kd t r h sz F H reg) {f n : Int} (hf : okI f) (hn : okI n) : (Instr.lookup 53 (.map (some h.fm)) (.agg #[.int .i64 f, .int .i64 n]) false).run Tryz.prog w = .ok (shP h F (f, n)) w := by
  have h1 := k.fm.look lawsF (zd := .held (.pointer none)) (x := (f, n)) ⟨hf, hn⟩
  rw [lookV_map (fun q _ => h.fv q)] at h1
  exact h1
theorem HW.look2 (k : HW w kd t r h sz F H reg) {f n : Int} (hf : okI f) (hn : okI n) : (Instr.lookup 53 (.map (some h.fm)) (.agg #[.int .i64 f, .int .i64 n]) true).run Tryz.prog w = .ok (.tuple #[shP h F (f, n), .bool (geA F (f, n)).isSome]) w := by
  have h1 := k.fm.look2 lawsF (x := (f, n)) ⟨hf, hn⟩
  rw [lookV_map (fun q _ => h.fv q)] at h1
  have h2 : ((geA F (f, n)).map fun _ => h.fv (f, n)).isSome = (geA F (f, n)).isSome := by cases geA F (f, n) <;> rfl
  rw [← h2]
  exact h1
/-- What find tells. -/
def findV (h : Gh) (sz : List Int) (F : List ((Int × Int) × List UInt8)) (k : Int × Int) : Value := if (hasF sz k.1 && (decide (k.2 < 0) || decide (sz.getD (k.1 - 1).toNat 0 ≤ k.2))) = true then .pointer none else shP h F k
theorem HW.findV (k : HW w kd t r h sz F H reg) (q : Int × Int) : Sh w kd (findV h sz F q) ((findF sz F q).getD none) := by
  unfold Go.Proofs.YtefiiooibbkffaaGreat.findV findF
  split
  · exact Sh.none_ _ _
  · exact k.sheet q
set_option maxHeartbeats 1000000 in
theorem fl_find (k : HW w kd t r h sz F H reg) (hl : sz.length ≤ 16) (hz : ∀ n, n ∈ sz → okI n) (f n : Int) (hf : okI f) (hn : okI n) :
    Calls Tryz.prog 149 #[flsV h, .agg #[.int .i64 f, .int .i64 n]] w fun e w' => e = .returned (.tuple #[findV h sz F (f, n), .bool (findF sz F (f, n)).isSome]) ∧ w.grownBy w' none := by
  obtain ⟨a, cc, hsv⟩ := OwnOf.form k.sz
  have ga := World.grownBy_alloc w (.cells #[h.sv, .map (some h.fm)] 55 (0, 0)) none
  have gb := World.grownBy_alloc (w.alloc (.cells #[h.sv, .map (some h.fm)] 55 (0, 0))) (.cells #[.int .i64 f, .int .i64 n] 153 (0, 0)) none
  have g2 := grown_trans ga gb
  have kB := k.grow g2
  have b0 := gb.block w.heap.size (by simp) (by simp)
  rw [heap_alloc_new w (.cells #[h.sv, .map (some h.fm)] 55 (0, 0))] at b0
  have b1 := heap_second' w (.cells #[h.sv, .map (some h.fm)] 55 (0, 0)) (.cells #[.int .i64 f, .int .i64 n] 153 (0, 0))
  unfold flsV
  generalize hwB : (w.alloc (.cells #[h.sv, .map (some h.fm)] 55 (0, 0))).alloc (.cells #[.int .i64 f, .int .i64 n] 153 (0, 0)) = wB at *
  have k0 : wB.cell? ⟨w.heap.size, 0, none⟩ = some h.sv := by rw [cell_of_row _ _ _ _ _ _ b0]; rfl
  have k1 : wB.cell? ⟨w.heap.size, 1, none⟩ = some (.map (some h.fm)) := by rw [cell_of_row _ _ _ _ _ _ b0]; rfl
  have k2 : wB.cell? ⟨w.heap.size + 1, 0, none⟩ = some (.int .i64 f) := by rw [cell_of_row _ _ _ _ _ _ b1]; rfl
  have k3 : wB.cell? ⟨w.heap.size + 1, 1, none⟩ = some (.int .i64 n) := by rw [cell_of_row _ _ _ _ _ _ b1]; rfl
  have hlk := fun W (g : wB.grownBy W none) => (kB.grow g).look1 hf hn
  have HG := Lib.hid g2
  have hrow := kB.sz
  rw [hsv] at k0 hrow hwB ⊢
  have hc := Calls.regrown_g (w := wB) fun W _ => has_ok W a cc h.fm sz f hl
  unfold findF Go.Proofs.YtefiiooibbkffaaGreat.findV
  simp only
  obtain ⟨d, hd⟩ : ∃ d, hasF sz f = d := ⟨_, rfl⟩
  rw [hd] at hc ⊢
  cases d with
  | false =>
    simp only [Bool.false_and, Bool.false_eq_true, if_false, Option.isSome_some]
    have r0 := cell_regrown k0
    have r1 := cell_regrown k1
    have r2 := cell_regrown k2
    have r3 := cell_regrown k3
    have HL := Lib.hid hlk
    clear k kB hlk hrow hz hf hn ga gb g2 b0 b1 hd
    go_enter Tryz.func149, Tryz.ntmps149
    go_upto_region 1 with fail
    refine wp_region_quiet_below (by kernel_rfl) (by kernel_rfl) ?_
    repeat (go_big_quiet_step (first | exact hc _ _ | fail))
    refine wpQuiet_nil ?_
    intro _ hw'
    obtain ⟨⟨dq, osq⟩, hw''⟩ := hw'
    subst hw''
    have HQ := Lib.hid (regrown_grown wB dq osq)
    clear r0 r1 r2 r3 hc
    generalize grow (redrawn wB dq) osq = w3 at *
    have hl3 := HL.out w3 HQ.out
    have q1 := HQ.out.cell k1 (by simp)
    have q2 := HQ.out.cell k2 (by simp)
    have q3 := HQ.out.cell k3 (by simp)
    clear k0 k1 k2 k3
    go_wp2_with fail
    go_ret2
    exact ⟨rfl, grown_trans HG.out HQ.out⟩
  | true =>
    have hd2 := hd
    unfold hasF at hd2
    rw [Bool.and_eq_true, decide_eq_true_eq, decide_eq_true_eq] at hd2
    obtain ⟨i, rfl⟩ : ∃ i : Nat, f = (i : Int) + 1 := ⟨(f - 1).toNat, by omega⟩
    have hi : i < sz.length := by omega
    obtain ⟨m, hm⟩ : ∃ m, sz[i]? = some m := ⟨_, List.getElem?_eq_getElem hi⟩
    rw [show sz.getD ((i : Int) + 1 - 1).toNat 0 = m by rw [show ((i : Int) + 1 - 1).toNat = i by omega]; simp [hm]]
    obtain ⟨hgg, cc2, hsl⟩ := OwnOf.there hrow (by omega)
    injection hsl with e1 e2 e3
    subst e1 e3
    have kz := own_z hrow hm
    have hwr : IntKind.i64.wrap ((i : Int) + 1 - 1) = (i : Int) := by rw [IntKind.wrap_i64]; omega
    have hi0 : (0 : Int) ≤ (i : Int) := by omega
    have HZ := Lib.hid (hz m (List.mem_of_getElem? hm))
    by_cases n0 : n < 0
    · have b0 : decide (n < 0) = true := decide_eq_true n0
      simp only [b0, Bool.true_and, Bool.true_or, if_true, Option.isSome_none]
      have r0 := cell_regrown k0
      have r1 := cell_regrown k1
      have r2 := cell_regrown k2
      have r3 := cell_regrown k3
      clear k kB hlk hrow hz hf hn ga gb g2 b0 b1 hd hm hd2 kz hl
      have b0 : decide (n < 0) = true := decide_eq_true n0
      go_enter Tryz.func149, Tryz.ntmps149
      go_upto_region 1 with fail
      refine wp_region_quiet_below (by kernel_rfl) (by kernel_rfl) ?_
      repeat (go_big_quiet_step (first | exact hc _ _ | fail))
      refine wpQuiet_nil ?_
      intro _ hw'
      obtain ⟨⟨dq, osq⟩, hw''⟩ := hw'
      subst hw''
      have HQ := Lib.hid (regrown_grown wB dq osq)
      clear r0 r1 r2 r3 hc
      generalize grow (redrawn wB dq) osq = w3 at *
      clear k0 k1 k2 k3
      go_wp2_with fail
      go_ret2
      exact ⟨rfl, grown_trans HG.out HQ.out⟩
    · have n0 : decide (n < 0) = false := decide_eq_false n0
      obtain ⟨d2, hd3⟩ : ∃ d2, decide (n ≥ m) = d2 := ⟨_, rfl⟩
      have hd4 : decide (m ≤ n) = d2 := hd3
      simp only [n0, hd4, Bool.false_or, Bool.true_and]
      have r0 := cell_regrown k0
      have r1 := cell_regrown k1
      have r2 := cell_regrown k2
      have r3 := cell_regrown k3
      have r4 := cell_regrown kz
      have HL := Lib.hid hlk
      clear k kB hlk hrow hz hf hn ga gb g2 b0 b1 hd hm hd2 kz
      cases d2 with
      | true =>
        simp only [if_true, Option.isSome_none]
        go_enter Tryz.func149, Tryz.ntmps149
        go_upto_region 1 with fail
        refine wp_region_quiet_below (by kernel_rfl) (by kernel_rfl) ?_
        repeat (go_big_quiet_step (first | exact hc _ _ | fail))
        refine wpQuiet_nil ?_
        intro _ hw'
        obtain ⟨⟨dq, osq⟩, hw''⟩ := hw'
        subst hw''
        have HQ := Lib.hid (regrown_grown wB dq osq)
        clear r0 r1 r2 r3 r4 hc
        generalize grow (redrawn wB dq) osq = w3 at *
        clear k0 k1 k2 k3
        go_wp2_with fail
        go_ret2
        exact ⟨rfl, grown_trans HG.out HQ.out⟩
      | false =>
        simp only [Bool.false_eq_true, if_false, Option.isSome_some]
        go_enter Tryz.func149, Tryz.ntmps149
        go_upto_region 1 with fail
        refine wp_region_quiet_below (by kernel_rfl) (by kernel_rfl) ?_
        repeat (go_big_quiet_step (first | exact hc _ _ | fail))
        refine wpQuiet_nil ?_
        intro _ hw'
        obtain ⟨⟨dq, osq⟩, hw''⟩ := hw'
        subst hw''
        have HQ := Lib.hid (regrown_grown wB dq osq)
        clear r0 r1 r2 r3 r4 hc
        generalize grow (redrawn wB dq) osq = w3 at *
        have hl3 := HL.out w3 HQ.out
        have q1 := HQ.out.cell k1 (by simp)
        have q2 := HQ.out.cell k2 (by simp)
        have q3 := HQ.out.cell k3 (by simp)
        clear k0 k1 k2 k3
        go_wp2_with fail
        go_ret2
        exact ⟨rfl, grown_trans HG.out HQ.out⟩
end
end Go.Proofs.YtefiiooibbkffaaGreat

namespace Go.Proofs.YtefiiooibbkffaaGreat
open Go.ChangeShapes Go.WideShapes Go.ChangeAt Go.RowKit Go.Deep Go.Sort
open Extern.Stop (cell)
set_option linter.unusedVariables false
set_option linter.unusedSimpArgs false

theorem no_ro (x : Ro) : ¬ noRo x := fun e => e
/-- An entry and a page of it, within what may be. -/
structure PgE (x : En) (pg : Int) : Prop where
  good : GoodE x
  f1 : x.f ≤ 1000000000
  lo : x.s ≤ pg
  hi : pg < x.e
theorem PgE.spot {x : En} {pg : Int} (h : PgE x pg) : okI (spotF x pg).1 ∧ okI (spotF x pg).2 ∧ 0 ≤ x.s ∧ x.s ≤ 1000000000 ∧ 0 ≤ x.o ∧ x.o ≤ 1000000000 ∧ 0 ≤ pg ∧ pg ≤ 1000000000 := by
  obtain ⟨⟨g1, g2, g3, g4, g5, g6, g7, g8, g9, g10, g11, g12⟩, h1, h2, h3⟩ := h
  have ho : x.o ≤ 4096 := by
    by_cases hf : x.f = 0
    · rw [g11 hf]; decide
    · have := g12 (by omega); omega
  unfold spotF
  simp only
  exact ⟨⟨by omega, by omega⟩, ⟨by omega, by omega⟩, g1, by omega, g5, by omega, by omega, by omega⟩
section
variable {w : World} {kd : Nat → Ro} {t r : Nat} {h : Gh} {sz : List Int} {F : List ((Int × Int) × List UInt8)} {H : List (Int × Option (List UInt8))} {reg : Int} {G : PG} {id : Int} {ι : Nat → Nat} {p : Pr} {sp : Nat → Value} {c : Nat → Option (List UInt8)}
def meansF (sz : List Int) (F : List ((Int × Int) × List UInt8)) (c : Nat → Option (List UInt8)) (p : Pr) (x : En) (pg : Int) : Option (Option (List UInt8)) := match ownF c p pg with | some b => some (some b) | none => findF sz F (spotF x pg)
/-- What means tells. -/
def meansV (h : Gh) (sp : Nat → Value) (sz : List Int) (F : List ((Int × Int) × List UInt8)) (c : Nat → Option (List UInt8)) (p : Pr) (x : En) (pg : Int) : Value := match ownF c p pg with | some _ => ownV sp c p pg | none => findV h sz F (spotF x pg)
theorem meansV_sh (k : HW w kd t r h sz F H reg) (hs : ∀ a, a ∈ p.A → SlA w kd t (ι a.2) a.2 (sp a.2) (c a.2)) (x : En) (pg : Int) : Sh w kd (meansV h sp sz F c p x pg) ((meansF sz F c p x pg).getD none) := by
  have h1 := ownV_sh hs pg
  unfold meansV meansF
  cases e : ownF c p pg with
  | some b => rw [e] at h1; exact h1
  | none => exact k.findV _
set_option maxHeartbeats 2000000 in
theorem means_ok (k : HW w kd t r h sz F H reg) (hl : sz.length ≤ 16) (hz : ∀ n, n ∈ sz → okI n) (hp : PAt w kd t G id ι p) (hs : ∀ a, a ∈ p.A → SlA w kd t (ι a.2) a.2 (sp a.2) (c a.2)) (x : En) (pg : Int) (hx : PgE x pg) :
    Calls Tryz.prog 110 #[.pointer (some ⟨r, 0, none⟩), .pointer (some ⟨G.b, 0, none⟩), .agg #[.int .i64 x.s, .int .i64 x.e, .int .i64 x.f, .int .i64 x.o, .bool x.sh, .int .i64 x.p, .int .i64 x.m, .int .i64 x.i, .int .i64 x.a, .bool x.wi], .int .i64 pg] w fun e w' => e = .returned (.tuple #[meansV h sp sz F c p x pg, .bool (meansF sz F c p x pg).isSome]) ∧ w.grownBy w' none := by
  obtain ⟨x1, x2, x3, x4, x5, x6, x7, x8⟩ := hx.spot
  have hpg : okI pg := ⟨by omega, by omega⟩
  have ga := World.grownBy_alloc w (.cells #[.int .i64 x.s, .int .i64 x.e, .int .i64 x.f, .int .i64 x.o, .bool x.sh, .int .i64 x.p, .int .i64 x.m, .int .i64 x.i, .int .i64 x.a, .bool x.wi] 50) none
  have hB := EnB.new w x
  generalize hwB : w.alloc (.cells #[.int .i64 x.s, .int .i64 x.e, .int .i64 x.f, .int .i64 x.o, .bool x.sh, .int .i64 x.p, .int .i64 x.m, .int .i64 x.i, .int .i64 x.a, .bool x.wi] 50) = wB at *
  have kB := k.grow ga
  have pB := hp.ch (R := noRo) (Ch.grown ga) (no_ro _) (no_ro _) (no_ro _) (no_ro _)
  have sB := fun a ha => (hs a ha).ch (R := noRo) (Ch.grown ga) (no_ro _) (no_ro _)
  have HO := Lib.hid (own_ok (sp := sp) (c := c) pB sB hpg)
  have HG := Lib.hid ga
  unfold meansF meansV
  cases hown : ownF c p pg with
  | some b =>
    rw [hown] at HO
    simp only [Option.isSome_some] at HO ⊢
    generalize ownV sp c p pg = u at *
    clear k hp hs ga hB kB pB sB x1 x2 x3 x4 x5 x6 x7 x8 hpg hown hx
    go_enter Tryz.func110, Tryz.ntmps110
    go_wp2_with fail
    refine HO.out.mono ?_
    rintro e w2 ⟨rfl, e2⟩
    subst e2
    go_wp2_with fail
    go_ret2
    exact ⟨rfl, HG.out⟩
  | none =>
    rw [hown] at HO
    simp only [Option.isSome_none] at HO ⊢
    obtain ⟨k0, k1, k2, k3, k4⟩ := kB.at
    obtain ⟨c0, c1, c2, c3, c4, c5, c6, c7, c8, c9⟩ := hB.at
    simp only [Nat.zero_add] at c0 c1 c2 c3 c4 c5 c6 c7 c8 c9
    have hc1 := Calls.regrown_g (w := wB) fun W _ => spotOf_ok W x pg x3 x4 x5 x6 x7 x8
    have hc2 := Calls.regrown_g (w := wB) fun W g => fl_find (kB.grow g) hl hz (spotF x pg).1 (spotF x pg).2 x1 x2
    unfold flsV at hc2
    obtain ⟨d, hd⟩ : ∃ d, (findF sz F (spotF x pg)).isSome = d := ⟨_, rfl⟩
    obtain ⟨u, hu⟩ : ∃ u, findV h sz F (spotF x pg) = u := ⟨_, rfl⟩
    have hu2 : findV h sz F ((spotF x pg).1, (spotF x pg).2) = u := hu
    have hd2 : (findF sz F ((spotF x pg).1, (spotF x pg).2)).isSome = d := hd
    rw [hu2, hd2] at hc2
    rw [hd, hu]
    generalize ownV sp c p pg = u9 at *
    generalize (spotF x pg).1 = f at *
    generalize (spotF x pg).2 = n at *
    generalize h.pm = pm at *
    generalize h.sv = sv at *
    generalize h.fm = fm at *
    generalize h.lm = lm at *
    clear k hp hs ga hB kB pB sB x1 x2 x3 x4 x5 x6 x7 x8 hpg hown hu hd hu2 hd2 hx
    go_enter Tryz.func110, Tryz.ntmps110
    go_wp2_with fail
    refine HO.out.mono ?_
    rintro e w2 ⟨rfl, e2⟩
    subst e2
    go_upto_region 4 with fail
    have r1 := cell_regrown k1
    have r2 := cell_regrown k2
    have q0 := cell_regrown c0
    have q1 := cell_regrown c1
    have q2 := cell_regrown c2
    have q3 := cell_regrown c3
    have q4 := cell_regrown c4
    have q5 := cell_regrown c5
    have q6 := cell_regrown c6
    have q7 := cell_regrown c7
    have q8 := cell_regrown c8
    have q9 := cell_regrown c9
    refine wp_region_quiet_below (by kernel_rfl) (by kernel_rfl) ?_
    repeat (go_big_quiet_step (first | exact hc1 _ _ | exact hc2 _ _ | fail))
    refine wpQuiet_nil ?_
    intro _ hw'
    obtain ⟨⟨dq, osq⟩, hw''⟩ := hw'
    subst hw''
    have HQ := Lib.hid (regrown_grown w2 dq osq)
    clear r1 r2 q0 q1 q2 q3 q4 q5 q6 q7 q8 q9 hc1 hc2
    generalize grow (redrawn w2 dq) osq = w3 at *
    clear k0 k1 k2 k3 k4 c0 c1 c2 c3 c4 c5 c6 c7 c8 c9
    go_wp2_with fail
    go_ret2
    exact ⟨rfl, grown_trans HG.out HQ.out⟩
end
end Go.Proofs.YtefiiooibbkffaaGreat

namespace Go.Proofs.YtefiiooibbkffaaGreat
open Go.ChangeShapes Go.WideShapes Go.ChangeAt Go.RowKit Go.Deep Go.Sort
open Extern.Stop (cell)
set_option linter.unusedVariables false
set_option linter.unusedSimpArgs false

/-- What a call that reads a process finds. -/
structure Vw (w : World) (kd : Nat → Ro) (t r : Nat) (h : Gh) (S : Fl) (G : PG) (id : Int) (p : Pr) : Prop where
  hw : HW w kd t r h S.sz S.F S.H S.reg
  pa : PAt w kd t G id h.ι p
  sl : ∀ a, a ∈ p.A → SlA w kd t (h.ι a.2) a.2 (h.sp a.2) (S.c a.2)
  hl : S.sz.length ≤ 16
  hz : ∀ n, n ∈ S.sz → okI n
  mp : MapL p.L
  ln : p.L.length ≤ 800
  fb : ∀ x, x ∈ p.L → x.f ≤ 1000000000
section
variable {w w' : World} {kd : Nat → Ro} {t r : Nat} {h : Gh} {S : Fl} {G : PG} {id : Int} {p : Pr}
theorem Vw.grow (k : Vw w kd t r h S G id p) (g : w.grownBy w' none) : Vw w' kd t r h S G id p :=
  ⟨k.hw.grow g, k.pa.ch (R := noRo) (Ch.grown g) (no_ro _) (no_ro _) (no_ro _) (no_ro _), fun a ha => (k.sl a ha).ch (R := noRo) (Ch.grown g) (no_ro _) (no_ro _), k.hl, k.hz, k.mp, k.ln, k.fb⟩
theorem Vw.pg (k : Vw w kd t r h S G id p) {pg : Int} {x : En} (hx : atV p.L pg = some x) : PgE x pg := by
  obtain ⟨h1, h2, h3⟩ := at_mem hx
  have hm := List.mem_of_getElem? h1
  exact ⟨(rf_good k.mp.rf x hm).1, k.fb x hm, h2, h3⟩
theorem Vw.at_ok (k : Vw w kd t r h S G id p) (pg : Int) (x : En) (hx : atE p.L pg = x) (d : Bool) (hd : (atV p.L pg).isSome = d) :
    Calls Tryz.prog 109 #[.pointer (some ⟨G.m, 0, none⟩), .int .i64 pg] w fun e w' => e = .returned (.tuple #[.agg #[.int .i64 x.s, .int .i64 x.e, .int .i64 x.f, .int .i64 x.o, .bool x.sh, .int .i64 x.p, .int .i64 x.m, .int .i64 x.i, .int .i64 x.a, .bool x.wi], .bool d]) ∧ w.grownBy w' none :=
  Go.Proofs.YtefiiooibbkffaaGreat.at_ok k.pa.vm k.mp.rf (by have := k.ln; omega) pg x hx d hd
def lookU (h : Gh) (S : Fl) (p : Pr) (pg : Int) : Value := match atV p.L pg with | some e => (match S.means p e pg with | some _ => meansV h h.sp S.sz S.F S.c p e pg | none => .pointer none) | none => .pointer none
theorem Vw.lookU (k : Vw w kd t r h S G id p) (pg : Int) : Sh w kd (lookU h S p pg) (S.look p pg).1 := by
  unfold Go.Proofs.YtefiiooibbkffaaGreat.lookU Fl.look
  cases e : atV p.L pg with
  | none => exact Sh.none_ _ _
  | some x =>
    have h1 := meansV_sh k.hw k.sl x pg
    rw [show meansF S.sz S.F S.c p x pg = S.means p x pg from rfl] at h1
    simp only
    cases e2 : S.means p x pg with
    | none => exact Sh.none_ _ _
    | some b => rw [e2] at h1; exact h1
set_option maxHeartbeats 1000000 in
theorem look_ok17 (k : Vw w kd t r h S G id p) (pg : Int) :
    Calls Tryz.prog 58 #[.pointer (some ⟨r, 0, none⟩), .pointer (some ⟨G.b, 0, none⟩), .int .i64 pg] w fun e w' => e = .returned (.tuple #[lookU h S p pg, .int .i64 (S.look p pg).2]) ∧ w.grownBy w' none := by
  have c0 := k.pa.at0
  unfold Fl.look lookU
  cases hat : atV p.L pg with
  | none =>
    obtain ⟨x, hx⟩ : ∃ x, atE p.L pg = x := ⟨_, rfl⟩
    have HA := Lib.hid (k.at_ok pg x hx false (by rw [hat]; rfl))
    simp only
    clear k hat hx
    go_enter Tryz.func58, Tryz.ntmps58
    go_wp2_with fail
    refine HA.out.mono ?_
    rintro e w2 ⟨rfl, g2⟩
    have HG := Lib.hid g2
    clear g2
    go_wp2_with fail
    go_ret2
    exact ⟨rfl, grown_trans HG.out (World.grownBy_alloc _ _ _)⟩
  | some x =>
    have hx : atE p.L pg = x := by unfold atE; rw [hat]; rfl
    have HA := Lib.hid (k.at_ok pg x hx true (by rw [hat]; rfl))
    have HM := Lib.hid (fun W (g : w.grownBy W none) => means_ok (k.grow g).hw k.hl k.hz (k.grow g).pa (k.grow g).sl x pg (k.pg hat))
    rw [show meansF S.sz S.F S.c p x pg = S.means p x pg from rfl] at HM
    simp only
    cases hm : S.means p x pg with
    | none =>
      rw [hm] at HM
      simp only [Option.isSome_none] at HM ⊢
      generalize meansV h h.sp S.sz S.F S.c p x pg = u at *
      clear k hat hx hm
      go_enter Tryz.func58, Tryz.ntmps58
      go_wp2_with fail
      refine HA.out.mono ?_
      rintro e w2 ⟨rfl, g2⟩
      have HG := Lib.hid g2
      have HM2 := Lib.hid (HM.out (w2.alloc (.cells #[.int .i64 x.s, .int .i64 x.e, .int .i64 x.f, .int .i64 x.o, .bool x.sh, .int .i64 x.p, .int .i64 x.m, .int .i64 x.i, .int .i64 x.a, .bool x.wi] 50)) (grown_trans g2 (World.grownBy_alloc _ _ _)))
      clear g2
      go_wp2_with fail
      refine HM2.out.mono ?_
      rintro e w3 ⟨rfl, g3⟩
      have HG3 := Lib.hid (grown_trans HG.out (grown_trans (World.grownBy_alloc _ _ _) g3))
      clear g3
      go_wp2_with fail
      go_ret2
      exact ⟨rfl, HG3.out⟩
    | some b =>
      rw [hm] at HM
      simp only [Option.isSome_some] at HM ⊢
      generalize meansV h h.sp S.sz S.F S.c p x pg = u at *
      clear k hat hx hm
      go_enter Tryz.func58, Tryz.ntmps58
      go_wp2_with fail
      refine HA.out.mono ?_
      rintro e w2 ⟨rfl, g2⟩
      have HG := Lib.hid g2
      have HM2 := Lib.hid (HM.out (w2.alloc (.cells #[.int .i64 x.s, .int .i64 x.e, .int .i64 x.f, .int .i64 x.o, .bool x.sh, .int .i64 x.p, .int .i64 x.m, .int .i64 x.i, .int .i64 x.a, .bool x.wi] 50)) (grown_trans g2 (World.grownBy_alloc _ _ _)))
      clear g2
      go_wp2_with fail
      refine HM2.out.mono ?_
      rintro e w3 ⟨rfl, g3⟩
      have HG3 := Lib.hid (grown_trans HG.out (grown_trans (World.grownBy_alloc _ _ _) g3))
      clear g3
      go_wp2_with fail
      go_ret2
      exact ⟨rfl, HG3.out⟩
end
end Go.Proofs.YtefiiooibbkffaaGreat

namespace Go.Proofs.YtefiiooibbkffaaGreat
open Go.ChangeShapes Go.WideShapes Go.ChangeAt Go.RowKit Go.Deep Go.Sort
set_option linter.unusedVariables false

/-- An operation's fourteen cells. -/
structure OAt (w : World) (g : Nat) (o : FOp) : Prop where
  c0 : w.cell? ⟨g, 0, none⟩ = some (.int .i64 o.k)
  c1 : w.cell? ⟨g, 1, none⟩ = some (.int .i64 o.proc)
  c2 : w.cell? ⟨g, 2, none⟩ = some (.int .i64 o.addr)
  c3 : w.cell? ⟨g, 3, none⟩ = some (.int .i64 o.n)
  c4 : w.cell? ⟨g, 4, none⟩ = some (.int .i64 o.prot)
  c5 : w.cell? ⟨g, 5, none⟩ = some (.bool o.sh)
  c6 : w.cell? ⟨g, 6, none⟩ = some (.int .i64 o.file)
  c7 : w.cell? ⟨g, 7, none⟩ = some (.int .i64 o.off)
  c8 : w.cell? ⟨g, 8, none⟩ = some (.bool o.fixed)
  c9 : w.cell? ⟨g, 9, none⟩ = some (.int .i64 o.how)
  c10 : w.cell? ⟨g, 10, none⟩ = some (.int .i64 o.ati)
  c11 : w.cell? ⟨g, 11, none⟩ = some (.int .i64 o.v)
  c12 : w.cell? ⟨g, 12, none⟩ = some (.int .i64 o.hd)
  c13 : w.cell? ⟨g, 13, none⟩ = some (.int .i64 o.to)
/-- A boxed operation. -/
def OpB (w : World) (y : Nat) (o : FOp) : Prop := w.heap[y]? = some (.cells #[.int .i64 o.k, .int .i64 o.proc, .int .i64 o.addr, .int .i64 o.n, .int .i64 o.prot, .bool o.sh, .int .i64 o.file, .int .i64 o.off, .bool o.fixed, .int .i64 o.how, .int .i64 o.ati, .int .i64 o.v, .int .i64 o.hd, .int .i64 o.to] 34 (0, 0))
section
variable {w w' : World} {y : Nat} {o : FOp}
theorem OpB.at (h : OpB w y o) : OAt w y o := by
  constructor <;> (rw [cell_of_row _ _ _ _ _ _ h]; rfl)
theorem OpB.lt (h : OpB w y o) : y < w.heap.size := (Array.getElem?_eq_some_iff.1 h).1
theorem OpB.grow (h : OpB w y o) (g : w.grownBy w' none) : OpB w' y o := (g.block _ h.lt (by simp)).trans h
theorem OpB.new (w : World) (o : FOp) : OpB (w.alloc (.cells #[.int .i64 o.k, .int .i64 o.proc, .int .i64 o.addr, .int .i64 o.n, .int .i64 o.prot, .bool o.sh, .int .i64 o.file, .int .i64 o.off, .bool o.fixed, .int .i64 o.how, .int .i64 o.ati, .int .i64 o.v, .int .i64 o.hd, .int .i64 o.to] 34 (0, 0))) w.heap.size o := heap_alloc_new w _
end
structure OkO (o : FOp) : Prop where
  k : okI o.k
  proc : okI o.proc
  addr : okI o.addr
  n : okI o.n
  prot : okI o.prot
  file : okI o.file
  off : okI o.off
  how : okI o.how
  ati : okI o.ati
  v : okI o.v
  hd : okI o.hd
  tt : okI o.to
end Go.Proofs.YtefiiooibbkffaaGreat
