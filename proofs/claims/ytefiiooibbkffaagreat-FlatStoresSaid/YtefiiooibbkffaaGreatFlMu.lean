/- Layer 17 (landed): a map whose keys are pointers to slots: which slots were copied. Layer 17 (landed): a map that is alike, entry by entry. Layer 17 (landed): a process that is alike; slots that were copied. Layer 17 (landed): a process that is alike, walked. Layer 17 (landed): files that are alike. Layer 17 (landed): a world that is alike: what it is made of. Layer 17 (landed): Copy, walked. -/
import Derived.Test.YtefiiooibbkffaaGreatFlMq
import Derived.LaidEqlPtr
import Derived.MapKept
import Derived.WideKeyRuns
import Derived.Maps.RangeWalk
import Derived.Test.YtefiiooibbkffaaGreatFlLayB
namespace Go.Proofs.YtefiiooibbkffaaGreat
open Go.ChangeShapes Go.WideShapes Go.ChangeAt Go.RowKit Go.Deep Go.Sort
set_option linter.unusedVariables false
set_option linter.unusedSimpArgs false

abbrev slP (g : Nat) : Value := .pointer (some ⟨g, 0, none⟩)
theorem equal_slot_same (w : World) (g : Nat) : (Op.equal 156 (slP g) (slP g)).run Tryz.prog w = .ok true w := by
  obtain ⟨j, hj⟩ := Option.isSome_iff_exists.1 (show (Tryz.prog.info? 158).isSome = true by kernel_rfl)
  have h : ∀ d : Nat, (Op.equalIn (d + 1) 156 (slP g) (slP g)).run Tryz.prog w = .ok true w := fun d => by
    simp [Op.equalIn, run_underlying Tryz.underlying156, sizeOf, typeInfo, hj, run_sameAddr_same]
  simp [Op.equal, Op.maxDepth, h 9999]
theorem equal_slot_other {w : World} {g g2 : Nat} {ca cb : Array Value} {ta tb : TypeId} (hne : g ≠ g2) (ha : w.heap[g]? = some (.cells ca ta (0, 0))) (hb : w.heap[g2]? = some (.cells cb tb (0, 0))) : (Op.equal 156 (slP g) (slP g2)).run Tryz.prog w = .ok false w := by
  have hsz : (Tryz.prog.info? 158).map (·.size) = some 1 := by kernel_rfl
  obtain ⟨j, hj⟩ := Option.isSome_iff_exists.1 (show (Tryz.prog.info? 158).isSome = true by kernel_rfl)
  rw [hj] at hsz
  have hs : j.size ≠ 0 := by
    have : j.size = 1 := by simpa using hsz
    omega
  have hn : (⟨g, 0, none⟩ : Addr) ≠ ⟨g2, 0, none⟩ := fun e => hne (congrArg Addr.block e)
  have h : ∀ d : Nat, (Op.equalIn (d + 1) 156 (slP g) (slP g2)).run Tryz.prog w = .ok false w := fun d => by
    simp [Op.equalIn, run_underlying Tryz.underlying156, sizeOf, typeInfo, hj, hs, run_sameAddr_other w hn ha hb]
  simp [Op.equal, Op.maxDepth, h 9999]
/-- A map from slots to slots. -/
structure Tw (w : World) (M : Nat) (ι ι2 : Nat → Nat) (T : List Nat) : Prop where
  es : ∃ es clock, w.heap[M]? = some (.map es clock) ∧ es.toList.map (fun e => (e.key, e.val)) = T.map fun s => (slP (ι s), slP (ι2 s))
section
variable {w w' : World} {M : Nat} {ι ι2 : Nat → Nat} {T : List Nat}
theorem Tw.kept (h : Tw w M ι ι2 T) (hb : w'.heap[M]? = w.heap[M]?) : Tw w' M ι ι2 T := by
  obtain ⟨es, clock, h1, h2⟩ := h.es
  exact ⟨es, clock, hb.trans h1, h2⟩
theorem Tw.lt (h : Tw w M ι ι2 T) : M < w.heap.size := by
  obtain ⟨es, clock, h1, h2⟩ := h.es
  exact (Array.getElem?_eq_some_iff.1 h1).1
theorem Tw.made (w : World) (ι ι2 : Nat → Nat) : Tw (w.alloc (.map #[] 0)) w.heap.size ι ι2 [] := ⟨#[], 0, heap_alloc_new w _, rfl⟩
theorem Tw.congr {κ : Nat → Nat} (h : Tw w M ι ι2 T) (he : ∀ s, s ∈ T → κ s = ι2 s) : Tw w M ι κ T := by
  obtain ⟨es, clock, h1, h2⟩ := h.es
  exact ⟨es, clock, h1, h2.trans (List.map_congr_left fun s hs => by rw [he s hs])⟩
/-- Slots that are told apart. -/
structure Apart (w : World) (ι : Nat → Nat) (s0 : Nat) (T : List Nat) : Prop where
  here : ∃ c t, w.heap[ι s0]? = some (.cells c t (0, 0))
  cell : ∀ s, s ∈ T → ∃ c t, w.heap[ι s]? = some (.cells c t (0, 0))
  ne : ∀ s, s ∈ T → s ≠ s0 → ι s0 ≠ ι s
theorem find_slot {s0 : Nat} : ∀ {T : List Nat} {l : List MapEntry} (i : Nat), Apart w ι s0 T → l.map (fun e => (e.key, e.val)) = T.map (fun s => (slP (ι s), slP (ι2 s))) →
    (s0 ∈ T → ∃ j, (Instr.findAsking 156 (slP (ι s0)) l i).run Tryz.prog w = .ok (some (j, slP (ι2 s0))) w) ∧ (s0 ∉ T → (Instr.findAsking 156 (slP (ι s0)) l i).run Tryz.prog w = .ok none w)
  | [], [], i, _, _ => ⟨fun h => (by cases h), fun _ => by simp [Instr.findAsking]⟩
  | s :: T, e :: l, i, hA, he => by
    simp only [List.map_cons, List.cons.injEq, Prod.mk.injEq] at he
    obtain ⟨⟨e1, e2⟩, e3⟩ := he
    obtain ⟨h1, h2⟩ := find_slot (s0 := s0) (i + 1) ⟨hA.here, fun x hx => hA.cell x (List.mem_cons_of_mem _ hx), fun x hx => hA.ne x (List.mem_cons_of_mem _ hx)⟩ e3
    by_cases hs : s = s0
    · subst hs
      have hq := equal_slot_same w (ι s)
      refine ⟨fun _ => ⟨i, ?_⟩, fun hn => (hn (by simp)).elim⟩
      simp only [Instr.findAsking, Sem.run_bind, e1, hq, Result.andThen, e2]
      rfl
    · obtain ⟨c, t, hc⟩ := hA.here
      obtain ⟨c2, t2, hc2⟩ := hA.cell s (by simp)
      have hq := equal_slot_other (hA.ne s (by simp) hs) hc hc2
      refine ⟨fun hm => ?_, fun hn => ?_⟩
      · have hm2 : s0 ∈ T := by
          rcases List.mem_cons.1 hm with h | h
          · exact (hs h.symm).elim
          · exact h
        obtain ⟨j, hj⟩ := h1 hm2
        refine ⟨j, ?_⟩
        simp only [Instr.findAsking, Sem.run_bind, e1, hq, Result.andThen]
        exact hj
      · simp only [Instr.findAsking, Sem.run_bind, e1, hq, Result.andThen]
        exact h2 fun h => hn (List.mem_cons_of_mem _ h)
theorem findKey_slot (l : List MapEntry) (g : Nat) : (Instr.findKey 156 (slP g) l).run Tryz.prog w = (Instr.findAsking 156 (slP g) l).run Tryz.prog w := by
  cases l with
  | nil => simp [Instr.findKey, run_underlying Tryz.underlying156, Instr.findNow, Instr.findAsking]
  | cons e l => simp [Instr.findKey, run_underlying Tryz.underlying156, Instr.findNow, Instr.sameNow]
theorem checkKey_slot (b : Bool) (g : Nat) : (Instr.checkKey b 10000 156 (slP g)).run Tryz.prog w = .ok () w := by
  unfold Instr.checkKey
  simp only [Sem.run_bind, run_underlying Tryz.underlying156, Result.andThen]
  rfl
theorem Tw.look (h : Tw w M ι ι2 T) {s0 : Nat} (hA : Apart w ι s0 T) : (Instr.lookup 96 (.map (some M)) (slP (ι s0)) false).run Tryz.prog w = .ok (if s0 ∈ T then slP (ι2 s0) else .pointer none) w := by
  obtain ⟨es, clock, hb, he⟩ := h.es
  obtain ⟨f1, f2⟩ := find_slot 0 hA he
  have hz : (zeroValue 156).run Tryz.prog w = .ok (.pointer none) w := by kernel_rfl
  simp only [Instr.lookup, Sem.run_bind, run_underlying Tryz.underlying96, Result.andThen, MapKept.run_getObj_map hb, checkKey_slot, findKey_slot]
  by_cases hm : s0 ∈ T
  · obtain ⟨j, hj⟩ := f1 hm
    rw [if_pos hm]
    simp [Sem.run_bind, run_underlying Tryz.underlying96, Result.andThen, MapKept.run_getObj_map hb, checkKey_slot, findKey_slot, hj]
  · have hj := f2 hm
    rw [if_neg hm]
    simp [Sem.run_bind, run_underlying Tryz.underlying96, Result.andThen, MapKept.run_getObj_map hb, checkKey_slot, findKey_slot, hj, hz]
theorem Tw.put (h : Tw w M ι ι2 T) {s0 : Nat} (hA : Apart w ι s0 T) (hn : s0 ∉ T) (g : Nat) (hg : ι2 s0 = g) : ∃ w', (Instr.mapUpdate 96 (.map (some M)) (slP (ι s0)) (slP g)).run Tryz.prog w = .ok () w' ∧ Tw w' M ι ι2 (T ++ [s0]) ∧ w.grownBy w' (some M) := by
  obtain ⟨es, clock, hb, he⟩ := h.es
  obtain ⟨f1, f2⟩ := find_slot 0 hA he
  have hj := f2 hn
  have hs := MapKept.heap_set (o' := .map (es.push ⟨slP (ι s0), slP g, clock⟩) (clock + 1)) hb
  refine ⟨{ w with heap := w.heap.setIfInBounds M (.map (es.push ⟨slP (ι s0), slP g, clock⟩) (clock + 1)) }, ?_, ⟨_, _, hs.1, ?_⟩, ⟨rfl, rfl, rfl, by simp, fun k hk hne => hs.2 k (fun e => hne (by rw [e]))⟩⟩
  · simp [Instr.mapUpdate, Sem.run_bind, run_underlying Tryz.underlying96, Result.andThen, MapKept.run_getObj_map hb, checkKey_slot, findKey_slot, hj, MapKept.run_setObj_map _ hb]
  · simp [he, hg]
end
end Go.Proofs.YtefiiooibbkffaaGreat

namespace Go.Proofs.YtefiiooibbkffaaGreat
open Go.ChangeShapes Go.WideShapes Go.ChangeAt Go.RowKit Go.Deep Go.Sort
set_option linter.unusedVariables false
set_option linter.unusedSimpArgs false

theorem moveE_self (x : En) : moveE x x.s = x := by
  have : x.s + (x.e - x.s) = x.e := by omega
  unfold moveE
  rw [this]
theorem may_self {x : En} (hx : GoodE x) (hs : x.e - x.s ≤ 4096) : mayB x.s x true = true := by
  have h0 := hx.s0
  have h1 := hx.lt
  have h2 := hx.e1
  unfold mayB
  rw [Bool.and_eq_true, Bool.and_eq_true]
  refine ⟨⟨sized_iff.2 ⟨by omega, by omega, by omega⟩, ?_⟩, ?_⟩
  · rw [Bool.or_eq_true]
    exact .inr (range_iff.2 ⟨h0, by omega, by omega, by omega⟩)
  · refine (goodB_iff _).2 ⟨Int.le_refl _, ?_, ?_, hx.f0, hx.o0, hx.pm, hx.i0, hx.i1, hx.a0, hx.a1, hx.oz, ?_⟩
    · show (0 : Int) < 0 + (x.e - x.s); omega
    · show 0 + (x.e - x.s) ≤ 67108864; omega
    · show 0 < x.f → x.o ≤ 4096 - (0 + (x.e - x.s) - 0)
      intro hf
      have := hx.oe hf
      omega
theorem parted_take : ∀ (r : List En) (y : En) (q : Nat), Parted y r → Parted y (r.take q)
  | [], y, q, _ => by rw [List.take_nil]; trivial
  | x :: r, y, 0, _ => trivial
  | x :: r, y, q + 1, h => ⟨h.1, parted_take r x q h.2⟩
theorem merge_take {L : List En} (h : mergeE L = L) (q : Nat) : mergeE (L.take q) = L.take q := by
  cases L with
  | nil => rw [List.take_nil]; rfl
  | cons y r =>
    have h1 : mrg y r = y :: r := h
    obtain ⟨e, t, h2, h3⟩ := parted_mrg r y
    rw [h1] at h2
    injection h2 with h4 h5
    rw [← h4, ← h5] at h3
    cases q with
    | zero => rfl
    | succ q =>
      show mrg y (r.take q) = y :: r.take q
      exact mrg_parted (parted_take r y q h3)
theorem mapL_take {L : List En} (h : MapL L) (q : Nat) : MapL (L.take q) := ⟨rf_sub h.rf (List.take_sublist _ _), merge_take h.mg q⟩
theorem map_last {P : List En} {x : En} (h : RF 0 (P ++ [x])) (hs : x.e - x.s ≤ 4096) : (mapV P x.s x true).l = mergeE (P ++ [x]) := by
  have hx := (rf_good h x (by simp)).1
  have hpw := rf_pair h
  rw [List.pairwise_append] at hpw
  have hlow : ∀ y, y ∈ P → y.e ≤ x.s := fun y hy => hpw.2.2 y hy x (by simp)
  have hg : ∀ y, y ∈ P → y.s < y.e := fun y hy => (rf_good h y (by simp [hy])).1.lt
  have hx1 := hx.lt
  have hb : bothE P x.s (x.s + (x.e - x.s)) = P := by
    unfold bothE
    rw [clip_same (l := P) fun y hy hp => by have := hlow y hy; omega]
    exact clip_same fun y hy hp => by have := hlow y hy; omega
  have hl : leftE P x.s (x.s + (x.e - x.s)) = P := by
    unfold leftE
    rw [hb]
    refine filter_all fun y hy => ?_
    have h1 := hlow y hy
    have h2 := hg y hy
    unfold inB
    rw [decide_eq_false (by omega)]
    rfl
  have hf : findK P x.s = P.length := findK_end fun i y hi hy => hlow y (List.mem_of_getElem? hy)
  unfold mapV
  rw [if_pos (may_self hx hs), if_pos rfl]
  simp only
  rw [hl, moveE_self]
  unfold putE
  rw [hf, List.take_length, List.drop_length]
theorem map_take {L : List En} (h : MapL L) {q : Nat} {x : En} (hx : L[q]? = some x) (hs : x.e - x.s ≤ 4096) : (mapV (L.take q) x.s x true).l = L.take (q + 1) := by
  have e : L.take (q + 1) = L.take q ++ [x] := takel_at hx
  rw [map_last (by rw [← e]; exact (mapL_take h (q + 1)).rf) hs, ← e, merge_take h.mg]
/-- How much of a piece is left. -/
def leftOf (w : World) (v : Value) (e : Int) : Nat := match v with
  | .pointer (some a) => (match w.cell? a with | some u => (e - intOf u).toNat | none => 0)
  | _ => 0
theorem min_int (w : World) {a b : Int} (h : b ≤ a) : (Builtin.min_ #[3, 3] 3 #[.int .i64 a, .int .i64 b]).run Tryz.prog w = .ok (.int .i64 b) w := by
  by_cases h2 : b < a
  · simp [Builtin.min_, Builtin.min2, h2]
  · have : a = b := by omega
    subst this
    simp [Builtin.min_, Builtin.min2]
theorem EnB.setS {w : World} {y : Nat} {x : En} (h : EnB w y x) (s : Int) : EnB (w.setCell ⟨y, 0, none⟩ (.int .i64 s)) y { x with s := s } := heap_setCell_same w y 0 _ _ (.int .i64 s) h
theorem blk_new {w : World} {base : Nat} {v : Value} {L : List En} {b : Nat} (h : EOwn w base v L) (hb : w.heap.size ≤ b) : b ∉ blkL v := fun hm => by
  have := (OwnOf.lt h (mem_blk.1 hm)).2
  omega
set_option maxRecDepth 100000 in
set_option maxHeartbeats 16000000 in
theorem copiedMap_ok {w : World} {r : Nat} {v : Value} {L : List En} (h : VM w r v L) (hm : MapL L) (hl : L.length ≤ 800) (hsz : ∀ x, x ∈ L → x.e - x.s ≤ 4096) :
    Calls Tryz.prog 105 #[.pointer (some ⟨r, 0, none⟩)] w fun e w' => ∃ r2 v2, e = .returned (.pointer (some ⟨r2, 0, none⟩)) ∧ VM w' r2 v2 L ∧ w.heap.size ≤ r2 ∧ w.grownBy w' none := by
  have HNw := Lib.hid (new_ok w)
  have HEn := Lib.hid (fun W (g : w.grownBy W none) => entries_ok (h.grow g) (Nat.le_trans hl (by decide)))
  have HM := Lib.hid hm
  have HSz := Lib.hid hsz
  clear h hm hsz
  go_enter Tryz.func105, Tryz.ntmps105
  go_wp2_with fail
  refine HNw.out.mono ?_
  rintro e w1 ⟨rfl, k1, g1⟩
  have HE1 := Lib.hid (HEn.out w1 g1)
  have HV1 := Lib.hid k1
  have HG1 := Lib.hid g1
  clear k1 g1 HNw HEn
  obtain ⟨r2, hr2⟩ : ∃ r2, w.heap.size = r2 := ⟨_, rfl⟩
  rw [hr2] at HV1 ⊢
  have HR2 := Lib.hid (Nat.le_of_eq hr2)
  clear hr2
  go_wp2_with fail
  refine HE1.out.mono ?_
  rintro e w2 ⟨u, rfl, k2, g2⟩
  have HU2 := Lib.hid k2
  have HV2 := Lib.hid (HV1.out.grow g2)
  have HG2 := Lib.hid (grown_trans HG1.out g2)
  have hsz2 : w1.heap.size ≤ w2.heap.size := g2.size
  have HG2s := Lib.hid (show w.heap.size ≤ w2.heap.size from HG2.out.size)
  have hr1 : r2 < w1.heap.size := HV1.out.lt
  have HR1 := Lib.hid hr1
  have HUb := Lib.hid (fun b hb => OwnOf.lt k2 (g := b) hb)
  obtain ⟨s2, c2, hvf⟩ := OwnOf.form k2
  subst hvf
  clear k2 g2 HE1 HV1 HG1
  go_wp2_with fail
  go_loopw [11] (fun iv wr => ∃ (q : Nat) (v2 : Value), q ≤ L.length ∧ iv = .int .i64 q ∧ Hid (VM wr r2 v2 (L.take q)) ∧ Hid (EOwn wr w1.heap.size (.slice s2 L.length c2) L) ∧ Hid (∀ b, v2.ownBlock = some b → w2.heap.size ≤ b) ∧ Hid (w.grownBy wr none) ∧ w2.heap.size ≤ wr.heap.size) (fun iv _ => L.length - (intOf iv).toNat)
  case atStart => exact ⟨0, _, by omega, rfl, HV2, HU2, Lib.hid (fun b hb => by cases hb), HG2, Nat.le_refl _⟩
  case round =>
    obtain ⟨q, v2, hq, rfl, HV, HU, HB, HG, hw2⟩ := hrel
    clear HV2 HU2 HG2
    by_cases hlt : q < L.length
    · obtain ⟨x, hx⟩ : ∃ x, L[q]? = some x := ⟨_, List.getElem?_eq_getElem hlt⟩
      obtain ⟨g, o, c', hv, ka⟩ := en_cells (eown_row HU.out) hx
      obtain ⟨ka0, ka1, ka2, ka3, ka4, ka5, ka6, ka7, ka8, ka9⟩ := ka
      injection hv with e1 e2 e3
      subst e1 e3
      have hmem := List.mem_of_getElem? hx
      have hgx := (rf_good HM.out.rf x hmem).1
      have hx0 := hgx.s0
      have hx1 := hgx.lt
      have hx2 := hgx.e1
      have hxs := HSz.out x hmem
      have HXo := Lib.hid (show OkN x from ⟨⟨by omega, by omega⟩, ⟨by omega, by omega⟩, hgx.ok.p, hgx.ok.m⟩)
      have HTk := Lib.hid (map_take HM.out hx hxs)
      have HMt := Lib.hid (mapL_take HM.out q)
      have hlq : (L.take q).length ≤ 900 := by rw [List.length_take]; omega
      have HLq := Lib.hid hlq
      have gA := World.grownBy_alloc wr (.cells #[.int .i64 x.s, .int .i64 x.e, .int .i64 x.f, .int .i64 x.o, .bool x.sh, .int .i64 x.p, .int .i64 x.m, .int .i64 x.i, .int .i64 x.a, .bool x.wi] 50) none
      have hBA := EnB.new wr x
      have gB := World.grownBy_alloc (wr.alloc (.cells #[.int .i64 x.s, .int .i64 x.e, .int .i64 x.f, .int .i64 x.o, .bool x.sh, .int .i64 x.p, .int .i64 x.m, .int .i64 x.i, .int .i64 x.a, .bool x.wi] 50)) (.cells #[.int .i64 x.s, .int .i64 x.e, .int .i64 x.f, .int .i64 x.o, .bool x.sh, .int .i64 x.p, .int .i64 x.m, .int .i64 x.i, .int .i64 x.a, .bool x.wi] 50) none
      have hBB := EnB.new (wr.alloc (.cells #[.int .i64 x.s, .int .i64 x.e, .int .i64 x.f, .int .i64 x.o, .bool x.sh, .int .i64 x.p, .int .i64 x.m, .int .i64 x.i, .int .i64 x.a, .bool x.wi] 50)) x
      have hsA := World.size_alloc wr (.cells #[.int .i64 x.s, .int .i64 x.e, .int .i64 x.f, .int .i64 x.o, .bool x.sh, .int .i64 x.p, .int .i64 x.m, .int .i64 x.i, .int .i64 x.a, .bool x.wi] 50)
      rw [hsA] at hBB
      have hBA2 := hBA.grow gB
      have HVB := Lib.hid ((HV.out.grow gA).grow gB)
      have HUB := Lib.hid (eown_grow (eown_grow HU.out gA) gB)
      have HGB := Lib.hid (grown_trans (grown_trans HG.out gA) gB)
      have HNo := Lib.hid (show wr.heap.size ∉ r2 :: blkL v2 ∧ wr.heap.size + 1 ∉ r2 :: blkL v2 from by
        have hr := HV.out.lt
        refine ⟨fun hm => ?_, fun hm => ?_⟩ <;> rcases List.mem_cons.1 hm with e | hm
        · omega
        · exact blk_new HV.out.own (Nat.le_refl _) hm
        · omega
        · exact blk_new HV.out.own (by omega) hm)
      obtain ⟨ya0, ya1, ya2, ya3, ya4, ya5, ya6, ya7, ya8, ya9⟩ := hBA.all
      have HBA := Lib.hid hBA2
      have HBB := Lib.hid hBB
      have hyA : w2.heap.size ≤ wr.heap.size := hw2
      clear gA gB hBA hBB hBA2 hsA hx hmem hgx HV HU HG hlq
      go_wp2_with fail
      clear ka0 ka1 ka2 ka3 ka4 ka5 ka6 ka7 ka8 ka9 ya0 ya1 ya2 ya3 ya4 ya5 ya6 ya7 ya8 ya9
      generalize (wr.alloc (.cells #[.int .i64 x.s, .int .i64 x.e, .int .i64 x.f, .int .i64 x.o, .bool x.sh, .int .i64 x.p, .int .i64 x.m, .int .i64 x.i, .int .i64 x.a, .bool x.wi] 50)).alloc (.cells #[.int .i64 x.s, .int .i64 x.e, .int .i64 x.f, .int .i64 x.o, .bool x.sh, .int .i64 x.p, .int .i64 x.m, .int .i64 x.i, .int .i64 x.a, .bool x.wi] 50) = wB at *
      have hyB : w2.heap.size ≤ wr.heap.size + 1 := by omega
      generalize wr.heap.size + 1 = yB at *
      generalize wr.heap.size = yA at *
      go_loopw [6] (fun pv wx => ∃ (d : Bool) (y : Nat) (v3 : Value), pv = .pointer (some ⟨y, 0, none⟩) ∧ Hid (EnB wx y (if d = true then { x with s := x.e } else x)) ∧ Hid (EnB wx yA x) ∧ Hid (VM wx r2 v3 (L.take (if d = true then q + 1 else q))) ∧ Hid (EOwn wx w1.heap.size (.slice (some ⟨g, o, none⟩) L.length c2) L) ∧ Hid (∀ b, v3.ownBlock = some b → w2.heap.size ≤ b) ∧ Hid (w.grownBy wx none) ∧ w2.heap.size ≤ y ∧ Hid (d = false → yA ∉ r2 :: blkL v3 ∧ y ∉ r2 :: blkL v3)) (fun pv wx => leftOf wx pv x.e)
      case atStart => exact ⟨false, yB, v2, rfl, HBB, HBA, HVB, HUB, HB, HGB, hyB, Lib.hid (fun _ => HNo.out)⟩
      case round =>
        clear HBB HBA HVB HUB HB HGB HNo
        obtain ⟨d, y, v3, rfl, HY, HA, HV, HU, HB, HG, hy, HNo⟩ := hrel
        cases d with
        | false =>
          have HY2 := Lib.hid (show EnB wr y x from HY.out)
          have HV2 := Lib.hid (show VM wr r2 v3 (L.take q) from HV.out)
          obtain ⟨n1, n2⟩ := HNo.out rfl
          obtain ⟨a0, a1, -⟩ := HA.out.all
          have hyy := HY2.out.all
          obtain ⟨y0, y1, y2, y3, y4, y5, y6, y7, y8, y9⟩ := hyy
          have hlf : leftOf wr (.pointer (some ⟨y, 0, none⟩)) x.e = (x.e - x.s).toNat := by unfold leftOf; simp only; rw [y0]; rfl
          have HLf := Lib.hid hlf
          have hmn := fun W => min_int W (a := x.s + 4096) (b := x.e) (by omega)
          have hfz := HY2.out.frozen 1
          obtain ⟨wS, hwS⟩ : ∃ wS, wr.setCell ⟨y, 1, none⟩ (.int .i64 x.e) = wS := ⟨_, rfl⟩
          have tS : Turn [y] wr wS := by rw [← hwS]; exact Turn.setCell [y] _ _ _ _ (by simp)
          have hYS : EnB wS y x := by rw [← hwS]; exact HY2.out.setE x.e
          have hAS : EnB wS yA x := by
            by_cases e : yA = y
            · rw [e]; exact hYS
            · exact HA.out.turn tS (by simpa using e)
          have hny : y ≠ r2 := fun e => n2 (by rw [e]; simp)
          have hnv : ∀ b, v3.ownBlock = some b → b ≠ y := fun b hb e => n2 (by rw [← e]; exact List.mem_cons_of_mem _ (mem_blk.2 hb))
          have hVS := HV2.out.turn tS (by simpa using hny.symm) (fun b hb => by simpa using hnv b hb)
          have hUS := eown_turn HU.out tS (fun b hb hm => by
            have h1 := (HUb.out b hb).2
            have : b = y := by simpa using hm
            omega)
          have HGS := Lib.hid (Turn.noGrown ((Turn.grown (O := [y]) HG.out).trans' tS) fun b hb => by
            have h1 : b = y := by simpa using hb
            have h2 := HG2s.out
            omega)
          have HMap := Lib.hid (map_ok hVS HMt.out HLq.out x.s x true ⟨by omega, by omega⟩ HXo.out)
          rw [HTk.out] at HMap
          obtain ⟨z0, z1, z2, z3, z4, z5, z6, z7, z8, z9⟩ := hYS.all
          have HYS := Lib.hid hYS
          have HAS := Lib.hid hAS
          have HUS := Lib.hid hUS
          have HTS := Lib.hid (show w2.heap.size ≤ wS.heap.size by have := tS.size; have := HY2.out.lt; omega)
          clear tS hYS hAS hVS hUS HY HV HU HA HY2 HV2 hlf
          go_wp2_with fail
          refine HMap.out.mono ?_
          rintro e w5 ⟨u5, v5, rfl, -, hV5, hN5, hT5⟩
          clear hwS y0 y1 y2 y3 y4 y5 y6 y7 y8 y9 z0 z1 z2 z3 z4 z5 z6 z7 z8 z9 a0 a1 hfz
          have hY5 := HYS.out.turn hT5 n2
          have hA5 := HAS.out.turn hT5 n1
          have hb5 : ∀ b, v5.ownBlock = some b → w2.heap.size ≤ b := fun b hb => by
            rcases hN5 b hb with h | h
            · exact HB.out b h
            · exact Nat.le_trans HTS.out h
          have hU5 := eown_turn HUS.out hT5 (fun b hb hm => by
            have h1 := HUb.out b hb
            rcases List.mem_cons.1 hm with h | h
            · have := HR1.out; omega
            · have := HB.out b (mem_blk.1 h); omega)
          have hg5 := Turn.noGrown ((Turn.grown (O := r2 :: blkL v3) HGS.out).trans' hT5) fun b hb => by
            rcases List.mem_cons.1 hb with h | h
            · have := HR2.out; omega
            · have h3 := HB.out b (mem_blk.1 h)
              have h4 := HG2s.out
              omega
          obtain ⟨y0, y1, y2, y3, y4, y5, y6, y7, y8, y9⟩ := hY5.all
          have gC := World.grownBy_alloc w5 (.cells #[.int .i64 x.s, .int .i64 x.e, .int .i64 x.f, .int .i64 x.o, .bool x.sh, .int .i64 x.p, .int .i64 x.m, .int .i64 x.i, .int .i64 x.a, .bool x.wi] 50) none
          have hBC := EnB.new w5 x
          have hszC := World.size_alloc w5 (.cells #[.int .i64 x.s, .int .i64 x.e, .int .i64 x.f, .int .i64 x.o, .bool x.sh, .int .i64 x.p, .int .i64 x.m, .int .i64 x.i, .int .i64 x.a, .bool x.wi] 50)
          have hw5 : w2.heap.size ≤ w5.heap.size := Nat.le_trans HTS.out hT5.size
          obtain ⟨wC, hwC⟩ : ∃ wC, w5.alloc (.cells #[.int .i64 x.s, .int .i64 x.e, .int .i64 x.f, .int .i64 x.o, .bool x.sh, .int .i64 x.p, .int .i64 x.m, .int .i64 x.i, .int .i64 x.a, .bool x.wi] 50) = wC := ⟨_, rfl⟩
          rw [hwC] at gC hBC hszC
          obtain ⟨yC, hyC⟩ : ∃ yC, w5.heap.size = yC := ⟨_, rfl⟩
          rw [hyC] at hBC hszC hw5
          obtain ⟨c0, c1, -⟩ := hBC.all
          have hfC := hBC.frozen 0
          obtain ⟨wF, hwF⟩ : ∃ wF, wC.setCell ⟨yC, 0, none⟩ (.int .i64 x.e) = wF := ⟨_, rfl⟩
          have tF : Turn [yC] wC wF := by rw [← hwF]; exact Turn.setCell [yC] _ _ _ _ (by simp)
          have HYF := Lib.hid (show EnB wF yC (if (true : Bool) = true then { x with s := x.e } else x) by rw [← hwF]; exact hBC.setS x.e)
          have hlt5 : ∀ b, b < w5.heap.size → b ∉ [yC] := fun b hb hm => by
            have : b = yC := by simpa using hm
            omega
          have HAF := Lib.hid ((hA5.grow gC).turn tF (hlt5 _ hA5.lt))
          have HVF := Lib.hid (show VM wF r2 v5 (L.take (if (true : Bool) = true then q + 1 else q)) from (hV5.grow gC).turn tF (hlt5 _ hV5.lt) fun b hb => hlt5 b (OwnOf.lt hV5.own hb).2)
          have HUF := Lib.hid (eown_turn (eown_grow hU5 gC) tF fun b hb => hlt5 b (OwnOf.lt hU5 hb).2)
          have HGF := Lib.hid (Turn.noGrown ((Turn.grown (O := [yC]) (grown_trans hg5 gC)).trans' tF) fun b hb => by
            have h1 : b = yC := by simpa using hb
            have h2 := hg5.size
            omega)
          have hlf2 : leftOf wF (.pointer (some ⟨yC, 0, none⟩)) x.e < leftOf wr (.pointer (some ⟨y, 0, none⟩)) x.e := by
            rw [HLf.out]
            unfold leftOf
            simp only
            rw [HYF.out.all.1]
            show (x.e - x.e).toNat < _
            omega
          have HLm := Lib.hid hlf2
          have HB5 := Lib.hid hb5
          clear hN5 hT5 hY5 hA5 hb5 hU5 hg5 gC hBC hszC tF hlt5 hlf2 hV5
          go_wp2_with fail
          go_roundw
          case rel => exact ⟨true, yC, v5, rfl, HYF, HAF, HVF, HUF, HB5, HGF, hw5, Lib.hid (fun h => by cases h)⟩
          case measure => exact HLm.out
        | true =>
          have HY2 := Lib.hid (show EnB wr y { x with s := x.e } from HY.out)
          have HV2 := Lib.hid (show VM wr r2 v3 (L.take (q + 1)) from HV.out)
          obtain ⟨a0, a1, -⟩ := HA.out.all
          obtain ⟨y0, y1, -⟩ := HY2.out.all
          try simp only at y0 y1
          have hws : w2.heap.size ≤ wr.heap.size := by have := HY2.out.lt; omega
          clear HY HV HNo HA HY2
          go_wp2_with fail
          go_roundw
          case rel => exact ⟨q + 1, v3, by omega, by go_num, HV2, HU, HB, HG, hws⟩
          case measure => simp [intOf]; omega
    · obtain rfl : q = L.length := by omega
      have HVf := HV.out
      rw [List.take_length] at HVf
      have HVg := Lib.hid HVf
      clear HVf
      go_wp2_with fail
      go_ret
      exact ⟨r2, v2, rfl, HVg.out, HR2.out, HG.out⟩
end Go.Proofs.YtefiiooibbkffaaGreat

namespace Go.Proofs.YtefiiooibbkffaaGreat
open Go.ChangeShapes Go.WideShapes Go.ChangeAt Go.RowKit Go.Deep Go.Sort
set_option linter.unusedVariables false
set_option linter.unusedSimpArgs false

section
variable {R : Ro → Prop} {kd kd' kd2 : Nat → Ro} {w w1 w2 w' : World}
theorem Ch.past (h : Ch R kd kd' w w1) {x : Nat} (g : w1.grownBy w2 (some x)) (hx : w.heap.size ≤ x) : Ch R kd kd' w w2 :=
  ⟨g.os.trans h.os, g.tape.trans h.tape, g.output.trans h.output, Nat.le_trans h.size g.size, fun b hb hr => (g.block b (Nat.lt_of_lt_of_le hb h.size) (fun e => by have := Option.some.inj e; omega)).trans (h.block b hb hr), h.kd⟩
theorem grown_far {M x : Nat} (h : w.grownBy w1 (some M)) (g : w1.grownBy w2 (some x)) (hx : w.heap.size ≤ x) : w.grownBy w2 (some M) :=
  ⟨g.os.trans h.os, g.tape.trans h.tape, g.output.trans h.output, Nat.le_trans h.size g.size, fun b hb hr => (g.block b (Nat.lt_of_lt_of_le hb h.size) (fun e => by have := Option.some.inj e; omega)).trans (h.block b hb hr)⟩
theorem grown_same17 {M : Nat} (h : w.grownBy w1 (some M)) (g : w1.grownBy w2 (some M)) : w.grownBy w2 (some M) :=
  ⟨g.os.trans h.os, g.tape.trans h.tape, g.output.trans h.output, Nat.le_trans h.size g.size, fun b hb hr => (g.block b (Nat.lt_of_lt_of_le hb h.size) hr).trans (h.block b hb hr)⟩
end
/-- The map of copies alone. -/
def twRo (tm : Nat) (ρ : Ro) : Prop := ρ = .w tm .head
def smRo (t2 : Nat) (id : Int) (ρ : Ro) : Prop := ρ = .w t2 (.sm id)
def noOne (ρ : Ro) : Prop := ρ = .no
section
variable {t t2 tm : Nat} {id : Int} {x : Rx}
theorem tw_w (h : t ≠ tm) : ¬ twRo tm (.w t x) := fun e => by unfold twRo at e; injection e with e1 e2; exact h e1
theorem tw_sh : ¬ twRo tm .sh := fun e => by cases e
theorem sm_w (h : x ≠ .sm id) : ¬ smRo t2 id (.w t x) := fun e => by unfold smRo at e; injection e with e1 e2; exact h e2
theorem sm_t (h : t ≠ t2) : ¬ smRo t2 id (.w t x) := fun e => by unfold smRo at e; injection e with e1 e2; exact h e1
theorem sm_sh : ¬ smRo t2 id .sh := fun e => by cases e
theorem no_w : ¬ noOne (.w t x) := fun e => by cases e
theorem no_sh : ¬ noOne .sh := fun e => by cases e
end
/-- The copies so far. -/
structure TwS (w : World) (kd : Nat → Ro) (t t2 tm M : Nat) (ι κ : Nat → Nat) (sp : Nat → Value) (c : Nat → Option (List UInt8)) (T : List Nat) : Prop where
  tw : Tw w M ι κ T
  km : kd M = .w tm .head
  sl : ∀ s, s ∈ T → SlA w kd t2 (κ s) s (sp s) (c s)
  so : ∀ s, s ∈ T → SlA w kd t (ι s) s (sp s) (c s)
section
variable {R : Ro → Prop} {w w' : World} {kd kd' : Nat → Ro} {t t2 tm M : Nat} {ι κ : Nat → Nat} {sp : Nat → Value} {c : Nat → Option (List UInt8)} {T : List Nat}
theorem TwS.ch (h : TwS w kd t t2 tm M ι κ sp c T) (k : Ch R kd kd' w w') (h0 : ¬ R .sh) (h1 : ¬ R (.w tm .head)) (h2 : ∀ s, ¬ R (.w t (.sl s))) (h3 : ∀ s, ¬ R (.w t2 (.sl s))) : TwS w' kd' t t2 tm M ι κ sp c T where
  tw := h.tw.kept (k.block _ h.tw.lt (by rw [h.km]; exact h1))
  km := (k.kd _ h.tw.lt).trans h.km
  sl := fun s hs => (h.sl s hs).ch k h0 (h3 s)
  so := fun s hs => (h.so s hs).ch k h0 (h2 s)
theorem TwS.apart (h : TwS w kd t t2 tm M ι κ sp c T) {s0 : Nat} (h0 : SlA w kd t (ι s0) s0 (sp s0) (c s0)) : Apart w ι s0 T :=
  ⟨⟨_, _, h0.hb⟩, fun s hs => ⟨_, _, (h.so s hs).hb⟩, fun s hs hne e => by
    have h1 := h0.ks
    rw [e, (h.so s hs).ks] at h1
    injection h1 with h2 h3
    injection h3 with h4
    exact hne h4⟩
/-- One copy more. -/
theorem TwS.add (h : TwS w kd t t2 tm M ι κ sp c T) {s0 : Nat} (h0 : SlA w kd t (ι s0) s0 (sp s0) (c s0)) (hn : s0 ∉ T) (htm : t ≠ tm) (htm2 : t2 ≠ tm) :
    ∃ w2 kd2 κ2, (Instr.mapUpdate 96 (.map (some M)) (slP (ι s0)) (slP w.heap.size)).run Tryz.prog (w.alloc (.cells #[sp s0] 158)) = .ok () w2 ∧ TwS w2 kd2 t t2 tm M ι κ2 sp c (T ++ [s0]) ∧ (∀ s, s ∈ T → κ2 s = κ s) ∧ κ2 s0 = w.heap.size ∧ Ch (twRo tm) kd kd2 w w2 ∧ w.grownBy w2 (some M) := by
  have ga := World.grownBy_alloc w (.cells #[sp s0] 158) none
  have cn := Ch.new noRo kd w (.cells #[sp s0] 158) (.w t2 (.sl s0))
  have hA := h.ch cn (no_ro _) (no_ro _) (fun _ => no_ro _) (fun _ => no_ro _)
  have h0A := h0.ch cn (no_ro _) (no_ro _)
  have hk2 : ∀ s, s ∈ T → upd κ s0 w.heap.size s = κ s := fun s hs => upd_ne _ _ (fun e => hn (by rw [← e]; exact hs))
  have hT2 := hA.tw.congr (κ := upd κ s0 w.heap.size) hk2
  obtain ⟨w2, hrun, ht2, g2⟩ := hT2.put (hA.apart h0A) hn w.heap.size (upd_same _ _ _)
  have c2 : Ch (twRo tm) (upd kd w.heap.size (.w t2 (.sl s0))) (upd kd w.heap.size (.w t2 (.sl s0))) (w.alloc (.cells #[sp s0] 158)) w2 := Ch.one g2 (by show _ = _; exact hA.km)
  have hnew : SlA (w.alloc (.cells #[sp s0] 158)) (upd kd w.heap.size (.w t2 (.sl s0))) t2 w.heap.size s0 (sp s0) (c s0) := ⟨upd_same _ _ _, heap_alloc_new w _, h0A.sh⟩
  refine ⟨w2, _, upd κ s0 w.heap.size, hrun, ⟨?_, ?_, fun s hs => ?_, fun s hs => ?_⟩, hk2, upd_same _ _ _, (cn.mono fun _ e => (no_ro _ e).elim).trans c2, grown_before ga g2⟩
  · exact ht2
  · exact hA.km
  · rcases List.mem_append.1 hs with hs | hs
    · rw [hk2 s hs]
      exact (hA.sl s hs).ch c2 tw_sh (tw_w htm2)
    · obtain rfl : s = s0 := by simpa using hs
      rw [upd_same]
      exact hnew.ch c2 tw_sh (tw_w htm2)
  · rcases List.mem_append.1 hs with hs | hs
    · exact (hA.so s hs).ch c2 tw_sh (tw_w htm)
    · obtain rfl : s = s0 := by simpa using hs
      exact h0A.ch c2 tw_sh (tw_w htm)
end
/-- A copy of a process under way. -/
structure CpI (w0 : World) (kd0 : Nat → Ro) (t t2 tm M : Nat) (G2 : PG) (id : Int) (ι κ0 : Nat → Nat) (sp : Nat → Value) (c : Nat → Option (List UInt8)) (T0 : List Nat) (p : Pr) (rr : Nat) (wr : World) (left : Lit → Bool) (kd : Nat → Ro) (κ : Nat → Nat) (T : List Nat) (D : List (Int × Nat)) : Prop where
  ch : Ch (twRo tm) kd0 kd w0 wr
  gm : w0.grownBy wr (some M)
  pa : PAt wr kd t2 G2 id κ ⟨p.L, D⟩
  tw : TwS wr kd t t2 tm M ι κ sp c T
  t0 : ∀ s, s ∈ T0 → s ∈ T ∧ κ s = κ0 s
  t1 : ∀ s, s ∈ T → s ∈ T0 ∨ ∃ a, a ∈ p.A ∧ a.2 = s
  d0 : ∀ d, d ∈ D → d ∈ p.A ∧ d.2 ∈ T ∧ left (klI d.1) = false
  d1 : ∀ a, a ∈ p.A → left (klI a.1) = false → a ∈ D
  kr : kd rr = .no
def CpL (w0 : World) (kd0 : Nat → Ro) (t t2 tm M : Nat) (G2 : PG) (id : Int) (ι κ0 : Nat → Nat) (sp : Nat → Value) (c : Nat → Option (List UInt8)) (T0 : List Nat) (p : Pr) (rr : Nat) (wr : World) (left : Lit → Bool) : Prop := ∃ kd κ T D, CpI w0 kd0 t t2 tm M G2 id ι κ0 sp c T0 p rr wr left kd κ T D
/-- What the blocks of a new process are for. -/
def kdQ (kd : Nat → Ro) (t2 : Nat) (id : Int) (m2 sm2 b2 : Nat) (v2 : Value) : Nat → Ro := fun x => if x = m2 then .w t2 (.vm id) else if x = sm2 then .w t2 (.sm id) else if x = b2 then .w t2 (.pb id) else if v2.ownBlock = some x then .w t2 (.vr id) else kd x
section
variable {w0 wr : World} {kd0 kd : Nat → Ro} {t t2 tm M rr : Nat} {G2 : PG} {id : Int} {ι κ0 κ : Nat → Nat} {sp : Nat → Value} {c : Nat → Option (List UInt8)} {T0 T : List Nat} {p : Pr} {left : Lit → Bool} {D : List (Int × Nat)}
/-- The copy's slot of one page more. -/
theorem CpI.put (h : CpI w0 kd0 t t2 tm M G2 id ι κ0 sp c T0 p rr wr left kd κ T D) (hA : p.A.length ≤ 100000000) (hnd : (p.A.map (·.1)).Nodup) (hok : ∀ a, a ∈ p.A → okW a.1) (htt : t ≠ t2) (htm : t2 ≠ tm) (hb : w0.heap.size ≤ G2.sm) {x : Int} {s : Nat} (hx : (x, s) ∈ p.A) (hs : s ∈ T) (hl : left (klI x) = true) (W : World) (hW : wr.grownBy W none) :
    ∃ w2, (Instr.mapUpdate 106 (.map (some G2.sm)) (.int .i64 x) (slP (κ s))).run Tryz.prog W = .ok () w2 ∧ CpI w0 kd0 t t2 tm M G2 id ι κ0 sp c T0 p rr w2 (fun z => left z && !z.sameKey (klI x)) kd κ T ((x, s) :: D) ∧ wr.grownBy w2 (some G2.sm) := by
  have cW := Ch.grown (R := noRo) (kd := kd) hW
  have hpa := h.pa.ch cW (no_ro _) (no_ro _) (no_ro _) (no_ro _)
  have htw := h.tw.ch cW (no_ro _) (no_ro _) (fun _ => no_ro _) (fun _ => no_ro _)
  have hxw := hok _ hx
  have hnin : ∀ d, d ∈ D → d.1 ≠ x := fun d hd e => by
    have := (h.d0 d hd).2.2
    rw [e, hl] at this
    cases this
  have hDl : D.length ≤ p.A.length := by
    have hn := hpa.sm.nd
    rw [List.map_map] at hn
    have h1 : (D.map (·.1)).Nodup := hn
    have h2 := nodup_le h1 (m := p.A.map (·.1)) fun y hy => by
      obtain ⟨d, hd, rfl⟩ := List.mem_map.1 hy
      exact List.mem_map.2 ⟨d, (h.d0 d hd).1, rfl⟩
    rw [List.length_map, List.length_map] at h2
    exact h2
  obtain ⟨w2, hup, h2, t2'⟩ := hpa.sm.put lawsS (by rw [List.length_map]; show D.length < _; unfold maxLen; omega) (slP (κ s)) hxw
  rw [show kvI x = Value.int .i64 x from rfl] at hup
  have hdr : dropV ((⟨p.L, D⟩ : Pr).A.map fun a => (a.1, slP (κ a.2))) x = (D.map fun a => (a.1, slP (κ a.2))) := by
    unfold dropV
    refine List.filter_eq_self.2 fun n hn => ?_
    obtain ⟨d, hd, rfl⟩ := List.mem_map.1 hn
    exact decide_eq_true (hnin d hd)
  rw [hdr] at h2
  have c2 : Ch (smRo t2 id) kd kd W w2 := Ch.one t2'.grown (by show _ = _; exact hpa.ks)
  refine ⟨w2, hup, ⟨(h.ch.trans (Ch.grown hW)).past t2'.grown hb, grown_far (grown_then h.gm hW) t2'.grown hb, ?_, htw.ch c2 sm_sh (fun e => by unfold smRo at e; injection e with e1 e2; exact htm e1.symm) (fun _ => sm_t htt) (fun _ => sm_w (by simp)), h.t0, h.t1, fun d hd => ?_, fun a ha hla => ?_, h.kr⟩, grown_before hW t2'.grown⟩
  · have h5 := hpa.hb
    exact ⟨(c2.block _ (heap_lt h5) (by rw [hpa.kb]; exact sm_w (by simp))).trans h5, (c2.kd _ (heap_lt h5)).trans hpa.kb, ⟨(c2.block _ hpa.vm.lt (by rw [hpa.km]; exact sm_w (by simp))).trans hpa.vm.head, OwnOf.kept hpa.vm.own fun b hb => c2.block b (OwnOf.lt hpa.vm.own hb).2 (by rw [hpa.kv b hb]; exact sm_w (by simp))⟩, hpa.km, hpa.kv, h2, hpa.ks⟩
  · rcases List.mem_cons.1 hd with rfl | hd
    · refine ⟨hx, hs, ?_⟩
      have : (klI x).sameKey (klI x) = true := WideAt.sameKey_self (lawsS.isKey hxw)
      show (left (klI x) && !(klI x).sameKey (klI x)) = false
      rw [this]
      simp
    · obtain ⟨q1, q2, q3⟩ := h.d0 d hd
      refine ⟨q1, q2, ?_⟩
      show (left (klI d.1) && _) = false
      rw [q3]
      rfl
  · by_cases e : a.1 = x
    · have h6 := geA_mem hnd (show (a.1, a.2) ∈ p.A from ha)
      rw [e, geA_mem hnd hx] at h6
      have h7 : a = (x, s) := Prod.ext e (Option.some.inj h6).symm
      rw [h7]
      simp
    · refine List.mem_cons_of_mem _ (h.d1 a ha ?_)
      have h2 : (klI a.1).sameKey (klI x) = false := by
        cases hb : (klI a.1).sameKey (klI x) with
        | false => rfl
        | true => exact absurd (lawsS.inj _ _ (hok a ha) hxw (WideAt.sameKey_eq hb)) e
      have hla2 : (left (klI a.1) && !(klI a.1).sameKey (klI x)) = false := hla
      rw [h2] at hla2
      simpa using hla2
/-- The range's own block turns. -/
theorem CpI.next (h : CpI w0 kd0 t t2 tm M G2 id ι κ0 sp c T0 p rr wr left kd κ T D) (hr : w0.heap.size ≤ rr) {w1 : World} (g : wr.grownBy w1 (some rr)) : CpI w0 kd0 t t2 tm M G2 id ι κ0 sp c T0 p rr w1 left kd κ T D := by
  have c1 : Ch noOne kd kd wr w1 := Ch.one g h.kr
  exact ⟨h.ch.past g hr, grown_far h.gm g hr, h.pa.ch c1 no_w no_w no_w no_w, h.tw.ch c1 no_sh no_w (fun _ => no_w) (fun _ => no_w), h.t0, h.t1, h.d0, h.d1, h.kr⟩
/-- A slot is copied. -/
theorem CpI.add (h : CpI w0 kd0 t t2 tm M G2 id ι κ0 sp c T0 p rr wr left kd κ T D) (htm : t ≠ tm) (htm2 : t2 ≠ tm) (hrr : rr < wr.heap.size) {x : Int} {s : Nat} (hx : (x, s) ∈ p.A) (h0 : SlA wr kd t (ι s) s (sp s) (c s)) (hn : s ∉ T) :
    ∃ w2 kd2 κ2, (Instr.mapUpdate 96 (.map (some M)) (slP (ι s)) (slP wr.heap.size)).run Tryz.prog (wr.alloc (.cells #[sp s] 158)) = .ok () w2 ∧ CpI w0 kd0 t t2 tm M G2 id ι κ0 sp c T0 p rr w2 left kd2 κ2 (T ++ [s]) D ∧ κ2 s = wr.heap.size ∧ Ch (twRo tm) kd kd2 wr w2 ∧ wr.grownBy w2 (some M) := by
  obtain ⟨w2, kd2, κ2, hrun, ht, hk, hks, hch, hg⟩ := h.tw.add h0 hn htm htm2
  have hpa := (h.pa.ch hch (tw_w htm2) (tw_w htm2) (tw_w htm2) (tw_w htm2)).iota (ι' := κ2) fun a ha => hk _ (h.d0 a ha).2.1
  refine ⟨w2, kd2, κ2, hrun, ⟨h.ch.trans hch, grown_same17 h.gm hg, hpa, ht, fun s1 hs1 => ?_, fun s1 hs1 => ?_, fun d hd => ?_, h.d1, (hch.kd _ hrr).trans h.kr⟩, hks, hch, hg⟩
  · obtain ⟨q1, q2⟩ := h.t0 s1 hs1
    exact ⟨List.mem_append_left _ q1, (hk _ q1).trans q2⟩
  · rcases List.mem_append.1 hs1 with h1 | h1
    · exact h.t1 s1 h1
    · obtain rfl : s1 = s := by simpa using h1
      exact .inr ⟨_, hx, rfl⟩
  · obtain ⟨q1, q2, q3⟩ := h.d0 d hd
    exact ⟨q1, List.mem_append_left _ q2, q3⟩
end
end Go.Proofs.YtefiiooibbkffaaGreat

namespace Go.Proofs.YtefiiooibbkffaaGreat
open Go.ChangeShapes Go.WideShapes Go.ChangeAt Go.RowKit Go.Deep Go.Sort
set_option linter.unusedVariables false
set_option linter.unusedSimpArgs false

theorem grown_up {a b : World} {r : Option Nat} (h : a.grownBy b none) : a.grownBy b r := ⟨h.os, h.tape, h.output, h.size, fun k hk _ => h.block k hk (by simp)⟩
section
variable {w : World} {kd : Nat → Ro} {t t2 tm M : Nat} {G : PG} {id : Int} {ι κ : Nat → Nat} {sp : Nat → Value} {c : Nat → Option (List UInt8)} {T : List Nat} {p : Pr}
/-- A new process of a list's entries, without slots. -/
theorem newC {w1 : World} {m2 : Nat} {v2 : Value} (kd : Nat → Ro) (t2 : Nat) (id : Int) (κ : Nat → Nat) (hV : VM w1 m2 v2 p.L) (hm : w.heap.size ≤ m2) (g1 : w.grownBy w1 none) :
    PAt ((w1.alloc (.map #[] 0)).alloc (.cells #[.pointer (some ⟨m2, 0, none⟩), .map (some w1.heap.size)] 108)) (kdQ kd t2 id m2 w1.heap.size (w1.heap.size + 1) v2) t2 ⟨w1.heap.size + 1, m2, w1.heap.size, v2⟩ id κ ⟨p.L, []⟩ ∧ Ch noRo kd (kdQ kd t2 id m2 w1.heap.size (w1.heap.size + 1) v2) w ((w1.alloc (.map #[] 0)).alloc (.cells #[.pointer (some ⟨m2, 0, none⟩), .map (some w1.heap.size)] 108)) := by
  have gA := World.grownBy_alloc w1 (.map #[] 0) none
  have gB := World.grownBy_alloc (w1.alloc (.map #[] 0)) (.cells #[.pointer (some ⟨m2, 0, none⟩), .map (some w1.heap.size)] 108) none
  have eA := World.size_alloc w1 (.map #[] 0)
  have bB := heap_alloc_new (w1.alloc (.map #[] 0)) (.cells #[.pointer (some ⟨m2, 0, none⟩), .map (some w1.heap.size)] 108)
  rw [eA] at bB
  have mA := MapV.made Tryz.prog 3 klI okW w1
  have hlt := hV.lt
  have hsz := g1.size
  have hov : ∀ b, v2.ownBlock = some b → m2 < b ∧ b < w1.heap.size := fun b hb => OwnOf.lt hV.own hb
  refine ⟨⟨bB, ?_, (hV.grow gA).grow gB, ?_, fun b hb => ?_, mA.kept (gB.block _ mA.lt (by simp)), ?_⟩, (Ch.grown (R := noRo) (kd := kd) (grown_trans g1 (grown_trans gA gB))).name fun b hb => ?_⟩
  · show kdQ kd t2 id m2 w1.heap.size (w1.heap.size + 1) v2 (w1.heap.size + 1) = _; unfold kdQ; rw [if_neg (by omega), if_neg (by omega), if_pos rfl]
  · show kdQ kd t2 id m2 w1.heap.size (w1.heap.size + 1) v2 m2 = _; unfold kdQ; rw [if_pos rfl]
  · have h2 := hov b hb
    have h3 : v2.ownBlock = some b := hb
    unfold kdQ; rw [if_neg (by omega), if_neg (by omega), if_neg (by omega), if_pos h3]
  · show kdQ kd t2 id m2 w1.heap.size (w1.heap.size + 1) v2 w1.heap.size = _; unfold kdQ; rw [if_neg (by omega), if_pos rfl]
  · have hne : ¬ v2.ownBlock = some b := fun e => by have := (hov b e).1; omega
    unfold kdQ; rw [if_neg (by omega), if_neg (by omega), if_neg (by omega), if_neg hne]
set_option maxRecDepth 100000 in
set_option maxHeartbeats 32000000 in
theorem pcopied_ok (hP : PAt w kd t G id ι p) (hs : ∀ a, a ∈ p.A → SlA w kd t (ι a.2) a.2 (sp a.2) (c a.2)) (hm : MapL p.L) (hl : p.L.length ≤ 800) (hA : p.A.length ≤ 100000000) (hsz : ∀ x, x ∈ p.L → x.e - x.s ≤ 4096) (hT : TwS w kd t t2 tm M ι κ sp c T) (h1 : t ≠ t2) (h2 : t ≠ tm) (h3 : t2 ≠ tm) :
    Calls Tryz.prog 54 #[.pointer (some ⟨G.b, 0, none⟩), .map (some M)] w fun e w' => ∃ kd' G2 κ' T', e = .returned (.pointer (some ⟨G2.b, 0, none⟩)) ∧ PAt w' kd' t2 G2 id κ' p ∧ TwS w' kd' t t2 tm M ι κ' sp c T' ∧ (∀ s, s ∈ T → s ∈ T' ∧ κ' s = κ s) ∧ (∀ a, a ∈ p.A → a.2 ∈ T') ∧ (∀ s, s ∈ T' → s ∈ T ∨ ∃ a, a ∈ p.A ∧ a.2 = s) ∧ Ch (twRo tm) kd kd' w w' ∧ w.grownBy w' (some M) := by
  have HC := Lib.hid (copiedMap_ok hP.vm hm hl hsz)
  have c0 := hP.at0
  have HP := Lib.hid hP
  have HS := Lib.hid hs
  have HT := Lib.hid hT
  have HA := Lib.hid hA
  have hmk := fun W : World => (show (Instr.makeMap 106 none).run Tryz.prog W = .ok (.map (some W.heap.size)) (W.alloc (.map #[] 0)) from rfl)
  clear hP hs hm hl hA hsz hT
  go_enter Tryz.func54, Tryz.ntmps54
  go_wp2_with fail
  refine HC.out.mono ?_
  rintro e w1 ⟨m2, v2, rfl, hV, hm2, g1⟩
  obtain ⟨hN, hCn⟩ := newC kd t2 id κ hV hm2 g1
  have hPC := HP.out.ch hCn (no_ro _) (no_ro _) (no_ro _) (no_ro _)
  have c1 := hPC.at1
  obtain ⟨E, hown, hperm⟩ := hPC.sm.own
  have hlN : (p.A.map fun a => (a.1, Value.pointer (some ⟨ι a.2, 0, none⟩))).length = p.A.length := List.length_map _
  rw [hlN] at hown
  have HE := Lib.hid hperm
  have HSm := Lib.hid hPC.sm
  have HN := Lib.hid hN
  have HCn := Lib.hid hCn
  have hszw : w.heap.size ≤ w1.heap.size := g1.size
  have HSz := Lib.hid hszw
  have hszC : ((w1.alloc (.map #[] 0)).alloc (.cells #[.pointer (some ⟨m2, 0, none⟩), .map (some w1.heap.size)] 108)).heap.size = w1.heap.size + 1 + 1 := by simp
  have HSzC := Lib.hid hszC
  clear hN hCn hPC hperm hV hm2 g1 HC hszw hlN hszC c0
  go_wp2_with (at_range; refine wpList_range_own _ rfl _ 106 rfl 3 156 lawsS.keyed lawsS.und heldR G.sm p.A.length _ rfl hown ?_; intro w0 hrg0 hg0 hs0)
  go_frame
  rw [HSzC.out] at hrg0 hs0 ⊢
  have hlt2 : G.sm < w.heap.size := HP.out.sm.lt
  have hgm : G.sm ≠ M := fun e => by
    have h5 := HP.out.ks
    rw [e, HT.out.km] at h5
    injection h5 with h6 h7
    exact h2 h6.symm
  have hMw : M < w.heap.size := HT.out.tw.lt
  have HH0 := Lib.hid (show ∀ a, a ∈ p.A → Maps.has (DataW.map E) (klI a.1) = true from fun a ha => (has_iff HSm.out HE.out lawsS (HSm.out.ok _ (List.mem_map.2 ⟨a, ha, rfl⟩))).2 ⟨_, List.mem_map.2 ⟨a, ha, rfl⟩, rfl⟩)
  have HOk := Lib.hid (show ∀ a, a ∈ p.A → okW a.1 from fun a ha => HSm.out.ok _ (List.mem_map.2 ⟨a, ha, rfl⟩))
  have HNd := Lib.hid (show (p.A.map (·.1)).Nodup by
    have hn := HSm.out.nd
    rw [List.map_map] at hn
    exact hn)
  have c0 : Ch noRo (kdQ kd t2 id m2 w1.heap.size (w1.heap.size + 1) v2) (upd (kdQ kd t2 id m2 w1.heap.size (w1.heap.size + 1) v2) (w1.heap.size + 1 + 1) .no) _ w0 := (Ch.grown hg0).name fun b hb => upd_ne _ _ (by rw [HSzC.out] at hb; omega)
  have HI0 := Lib.hid (show CpL w kd t t2 tm M ⟨w1.heap.size + 1, m2, w1.heap.size, v2⟩ id ι κ sp c T p (w1.heap.size + 1 + 1) w0 (Maps.has (DataW.map E)) from
    ⟨_, κ, T, [], ⟨(HCn.out.trans c0).mono fun _ e => (no_ro _ e).elim, grown_up ((HCn.out.trans c0).noGrown fun _ _ => no_ro _), HN.out.ch c0 (no_ro _) (no_ro _) (no_ro _) (no_ro _), (HT.out.ch HCn.out (no_ro _) (no_ro _) (fun _ => no_ro _) (fun _ => no_ro _)).ch c0 (no_ro _) (no_ro _) (fun _ => no_ro _) (fun _ => no_ro _), fun s hs => ⟨hs, rfl⟩, fun s hs => .inl hs, fun d hd => (by cases hd), fun a ha hla => (by rw [HH0.out a ha] at hla; cases hla), upd_same _ _ _⟩⟩)
  have HR0 := Lib.hid hrg0
  have hsz := HSz.out
  clear hrg0 hg0 hs0 hown c0 c1 HN HCn HSzC HSz
  obtain ⟨sm2, hsm2⟩ : ∃ sm2, w1.heap.size = sm2 := ⟨_, rfl⟩
  rw [hsm2] at hsz
  try simp only [hsm2] at HI0 HR0 ⊢
  clear hsm2
  obtain ⟨rr, hrr⟩ : ∃ rr, sm2 + 1 + 1 = rr := ⟨_, rfl⟩
  rw [hrr] at HI0 HR0
  try simp only [hrr]
  have HRr := Lib.hid hrr
  have hrw : w.heap.size ≤ rr := by omega
  have hrs : rr ≠ sm2 := by omega
  clear hrr
  go_loopw [] (fun wr => ∃ (left : Lit → Bool) (cnt : Nat), Hid (wr.ranges Tryz.prog 3 heldR G.sm rr p.A.length (.map E) left cnt) ∧ Hid (CpL w kd t t2 tm M ⟨sm2 + 1, m2, sm2, v2⟩ id ι κ sp c T p rr wr left)) (fun wr => wr.rangeLeft G.sm rr)
  case atStart => exact ⟨_, _, HR0, HI0⟩
  case round =>
    clear HR0 HI0 HH0
    obtain ⟨left, cnt, HRg, HI⟩ := hrel
    have hrg := HRg.out
    go_wp2_with (at_next; refine wpList_next_ranges _ rfl _ rfl 3 lawsS.keyed heldR kvI _root_.id (fun key kl hk => by obtain ⟨x, hx, _⟩ := Maps.keyOf_int_inv Tryz.underlying3 hk; exact ⟨x, hx⟩) (fun v y hv => ⟨v, rfl⟩) G.sm rr p.A.length (.map E) left cnt rfl hrg ?_ ?_)
    · intro hc0 hl0
      obtain ⟨kd', κ', T', D, hI⟩ := HI.out
      have hD : D.Perm p.A := by
        have hn := hI.pa.sm.nd
        rw [List.map_map] at hn
        have n1 : (D.map (·.1)).Nodup := hn
        have n2 := HNd.out
        exact (List.perm_ext_iff_of_nodup (List.Pairwise.of_map _ (fun a b h e => h (by rw [e])) n1) (List.Pairwise.of_map _ (fun a b h e => h (by rw [e])) n2)).2 fun a => ⟨fun ha => (hI.d0 a ha).1, fun ha => hI.d1 a ha (hl0 _)⟩
      have hpa := hI.pa
      have HFin := Lib.hid (show PAt wr kd' t2 ⟨sm2 + 1, m2, sm2, v2⟩ id κ' p ∧ TwS wr kd' t t2 tm M ι κ' sp c T' ∧ (∀ s, s ∈ T → s ∈ T' ∧ κ' s = κ s) ∧ (∀ a, a ∈ p.A → a.2 ∈ T') ∧ (∀ s, s ∈ T' → s ∈ T ∨ ∃ a, a ∈ p.A ∧ a.2 = s) ∧ Ch (twRo tm) kd kd' w wr ∧ w.grownBy wr (some M) from
        ⟨⟨hpa.hb, hpa.kb, hpa.vm, hpa.km, hpa.kv, hpa.sm.perm (hD.map _), hpa.ks⟩, hI.tw, hI.t0, fun a ha => (hI.d0 a (hD.mem_iff.2 ha)).2.1, hI.t1, hI.ch, hI.gm⟩)
      clear hI hD hpa hrg HRg HI
      go_wp2_with fail
      go_ret
      exact ⟨kd', ⟨sm2 + 1, m2, sm2, v2⟩, κ', T', rfl, HFin.out⟩
    · intro x cv kl ya yb wn cnt1 hkey hlk hRv hat hrg1 hlt hg1 hs1 hen
      obtain ⟨x', ex, rfl, hwx⟩ := Maps.keyOf_int_inv Tryz.underlying3 hkey
      have ex2 : x = x' := by unfold kvI at ex; injection ex
      subst ex2
      have hin : ∃ s, (x, s) ∈ p.A := by
        by_cases hno : ∀ n, n ∈ (p.A.map fun a => (a.1, Value.pointer (some ⟨ι a.2, 0, none⟩))) → n.1 ≠ x
        · exfalso
          have k1 := (hat (.held (.bool true))).trans (hat (.held (.bool false))).symm
          rw [show Lit.int .i64 x = klI x from rfl, at_no HSm.out lawsS HE.out hwx hno, at_no HSm.out lawsS HE.out hwx hno] at k1
          injection k1 with k2
          injection k2 with k3
          cases k3
        · obtain ⟨n, hn⟩ := Classical.not_forall.1 hno
          obtain ⟨hn1, hn2⟩ := Classical.not_imp.1 hn
          have hn3 : n.1 = x := Classical.not_not.1 hn2
          obtain ⟨a, ha, rfl⟩ := List.mem_map.1 hn1
          exact ⟨a.2, by rw [← hn3]; exact ha⟩
      obtain ⟨s, hxs⟩ := hin
      have hya := hat (.held (.pointer none))
      rw [show Lit.int .i64 x = klI x from rfl, at_yes HSm.out lawsS HE.out (x := x) (a := .pointer (some ⟨ι s, 0, none⟩)) (List.mem_map.2 ⟨_, hxs, rfl⟩)] at hya
      subst hya
      have hc : cv = .pointer (some ⟨ι s, 0, none⟩) := by
        unfold heldR at hRv
        simp at hRv
        exact hRv.1
      subst hc
      obtain ⟨kd', κ', T', D, hI⟩ := HI.out
      have hIn := hI.next hrw hg1
      have h0 := (HS.out (x, s) hxs).ch hIn.ch tw_sh (tw_w h2)
      simp only at h0
      have hlkn := hIn.tw.tw.look (hIn.tw.apart h0)
      have cb := hIn.pa.at1
      try simp only at cb
      have HLt := Lib.hid hlt
      have hms0 : wn.rangeLeft G.sm rr < wr.rangeLeft G.sm rr := by rw [hrg1.left_eq, hrg.left_eq]; exact hlt
      have HM0 := Lib.hid hms0
      have HRg1 := Lib.hid hrg1
      have hleft : left (klI x) = true := hlk
      obtain ⟨hform, hnn⟩ : ∃ q, sp s = .pointer q := by obtain ⟨q, hq, -⟩ := h0.sh.form; exact ⟨q, hq⟩
      by_cases hsT : s ∈ T'
      · rw [if_pos hsT] at hlkn
        obtain ⟨w2, hup, hI2, g2⟩ := hIn.put HA.out HNd.out HOk.out h1 h3 (show w.heap.size ≤ sm2 by omega) hxs hsT hleft wn.drew (grown_drew1 _)
        have hlkd := (hIn.tw.ch (Ch.grown (R := noRo) (grown_drew1 wn)) (no_ro _) (no_ro _) (fun _ => no_ro _) (fun _ => no_ro _)).tw.look ((hIn.tw.ch (Ch.grown (R := noRo) (grown_drew1 wn)) (no_ro _) (no_ro _) (fun _ => no_ro _) (fun _ => no_ro _)).apart (h0.ch (Ch.grown (R := noRo) (kd := kd') (grown_drew1 wn)) (no_ro _) (no_ro _)))
        rw [if_pos hsT] at hlkd
        have cbd : wn.drew.cell? ⟨sm2 + 1, 1, none⟩ = some (.map (some sm2)) := cb
        have hr2 := HRg1.out.kept g2 (by intro e; have := Option.some.inj e; simp only at this; omega) (by intro e; exact hrs (Option.some.inj e))
        have HR2 := Lib.hid hr2
        have HI2 := Lib.hid (show CpL w kd t t2 tm M ⟨sm2 + 1, m2, sm2, v2⟩ id ι κ sp c T p rr w2 (fun z => left z && !z.sameKey (klI x)) from ⟨_, _, _, _, hI2⟩)
        have HMs := Lib.hid (show w2.rangeLeft G.sm rr < wr.rangeLeft G.sm rr by rw [hr2.left_eq, ← HRg1.out.left_eq]; exact HM0.out)
        have hup2 : (Instr.mapUpdate 106 (.map (some sm2)) (kvI x) (slP (κ' s))).run Tryz.prog wn.drew = .ok () w2 := hup
        clear hup
        clear hI hIn h0 hI2 g2 hr2 hrg hrg1 hat hRv hkey hlk hg1 hs1 ex hwx hlt hms0 HRg HI HRg1 hsT hxs
        go_upto_region 7 with fail
        go_region
        go_wp2_with fail
        go_roundw
        case rel => exact ⟨_, cnt1, HR2, HI2⟩
        case measure => exact HMs.out
      · rw [if_neg hsT] at hlkn
        obtain ⟨wa, kda, κa, hua, hIa, hks, hca, hga⟩ := hIn.add h2 h3 HRg1.out.lt hxs h0 hsT
        rw [hnn] at hua
        have hsa := h0.at
        rw [hnn] at hsa
        have h0a := h0.ch hca tw_sh (tw_w h2)
        have hlka := hIa.tw.tw.look (hIa.tw.apart h0a)
        rw [if_pos (by simp)] at hlka
        have hda := Ch.grown (R := noRo) (kd := kda) (grown_drew1 wa)
        have htd := hIa.tw.ch hda (no_ro _) (no_ro _) (fun _ => no_ro _) (fun _ => no_ro _)
        have hlkd := htd.tw.look (htd.apart (h0a.ch hda (no_ro _) (no_ro _)))
        rw [if_pos (by simp)] at hlkd
        have cba := hIa.pa.at1
        try simp only at cba
        have cbd : wa.drew.cell? ⟨sm2 + 1, 1, none⟩ = some (.map (some sm2)) := cba
        obtain ⟨w2, hup, hI2, g2⟩ := hIa.put HA.out HNd.out HOk.out h1 h3 (show w.heap.size ≤ sm2 by omega) hxs (by simp) hleft wa.drew (grown_drew1 _)
        have hup2 : (Instr.mapUpdate 106 (.map (some sm2)) (kvI x) (slP (κa s))).run Tryz.prog wa.drew = .ok () w2 := hup
        clear hup
        have hra := HRg1.out.kept hga (by intro e; have := Option.some.inj e; exact hgm this) (by intro e; have := Option.some.inj e; omega)
        have hr2 := hra.kept g2 (by intro e; have := Option.some.inj e; simp only at this; omega) (by intro e; exact hrs (Option.some.inj e))
        have HR2 := Lib.hid hr2
        have HI2 := Lib.hid (show CpL w kd t t2 tm M ⟨sm2 + 1, m2, sm2, v2⟩ id ι κ sp c T p rr w2 (fun z => left z && !z.sameKey (klI x)) from ⟨_, _, _, _, hI2⟩)
        have HMs := Lib.hid (show w2.rangeLeft G.sm rr < wr.rangeLeft G.sm rr by rw [hr2.left_eq, ← HRg1.out.left_eq]; exact HM0.out)
        rw [hks] at hlka hlkd hup2
        clear hI hIn h0 hI2 g2 hr2 hrg hrg1 hat hRv hkey hlk hg1 hs1 ex hwx hlt hms0 HRg HI HRg1 hsT hxs hIa hga hca h0a hda htd hra hnn hks
        go_upto_region 7 with fail
        go_region
        go_wp2_with fail
        go_roundw
        case rel => exact ⟨_, cnt1, HR2, HI2⟩
        case measure => exact HMs.out
end
end Go.Proofs.YtefiiooibbkffaaGreat

namespace Go.Proofs.YtefiiooibbkffaaGreat
open Go.ChangeShapes Go.WideShapes Go.ChangeAt Go.RowKit Go.Deep Go.Sort Go.Shelf
set_option linter.unusedVariables false
set_option linter.unusedSimpArgs false

theorem cloneF_ok {w : World} {M : Nat} {N : List ((Int × Int) × Value)} (h : MapV Tryz.prog 153 spotL okK w M N) : Calls Tryz.prog 103 #[.map (some M)] w fun e w' => e = .returned (.map (some w.heap.size)) ∧ MapV Tryz.prog 153 spotL okK w' w.heap.size N ∧ w.grownBy w' none := by
  obtain ⟨es, clock, hb⟩ := h.isMap
  refine (AnyW.maps_Clone Tryz.cloneF M es clock w hb).mono fun e w' ⟨he, hw⟩ => ?_
  subst hw
  obtain ⟨L, ⟨es2, clock2, h1, h2⟩, hl⟩ := h.own
  rw [hb] at h1
  injection h1 with h1
  injection h1 with h3 h4
  subst h3 h4
  exact ⟨he, ⟨h.ok, h.nd, L, ⟨es, clock, heap_alloc_new w _, h2⟩, hl⟩, World.grownBy_alloc w _ none⟩
theorem cloneH_ok {w : World} {M : Nat} {N : List (Int × Value)} (h : MapV Tryz.prog 3 klI okW w M N) : Calls Tryz.prog 53 #[.map (some M)] w fun e w' => e = .returned (.map (some w.heap.size)) ∧ MapV Tryz.prog 3 klI okW w' w.heap.size N ∧ w.grownBy w' none := by
  obtain ⟨es, clock, hb⟩ := h.isMap
  refine (AnyW.maps_Clone Tryz.cloneH M es clock w hb).mono fun e w' ⟨he, hw⟩ => ?_
  subst hw
  obtain ⟨L, ⟨es2, clock2, h1, h2⟩, hl⟩ := h.own
  rw [hb] at h1
  injection h1 with h1
  injection h1 with h3 h4
  subst h3 h4
  exact ⟨he, ⟨h.ok, h.nd, L, ⟨es, clock, heap_alloc_new w _, h2⟩, hl⟩, World.grownBy_alloc w _ none⟩
theorem zown_grow17 {w w' : World} {base : Nat} {v : Value} {xs : List Int} (h : ZOwn w base v xs) (g : w.grownBy w' none) : ZOwn w' base v xs := OwnOf.grow h g
theorem zown_form17 {w : World} {base : Nat} {v : Value} {xs : List Int} {n : Nat} (h : ZOwn w base v xs) (hn : xs.length = n) : ∃ a c, v = .slice a n c := by rw [← hn]; exact OwnOf.form h
set_option maxRecDepth 100000 in
set_option maxHeartbeats 8000000 in
theorem fcopied_ok {w : World} {sv : Value} {sz : List Int} {M : Nat} {N : List ((Int × Int) × Value)} (hz : ZOwn w 0 sv sz) (hl : sz.length ≤ 16) (hM : MapV Tryz.prog 153 spotL okK w M N) :
    Calls Tryz.prog 52 #[.agg #[sv, .map (some M)]] w fun e w' => ∃ sv2 M2, e = .returned (.agg #[sv2, .map (some M2)]) ∧ ZOwn w' w.heap.size sv2 sz ∧ MapV Tryz.prog 153 spotL okK w' M2 N ∧ w.heap.size ≤ M2 ∧ (∀ b, sv2.ownBlock = some b → b ≠ M2) ∧ w.grownBy w' none := by
  obtain ⟨s0, c0, hvf⟩ := OwnOf.form hz
  subst hvf
  have gA := World.grownBy_alloc w (.cells #[.slice s0 sz.length c0, .map (some M)] 55) none
  have gB := World.grownBy_alloc (w.alloc (.cells #[.slice s0 sz.length c0, .map (some M)] 55)) (.cells #[.slice none 0 0, .map none] 55) none
  have bA := heap_alloc_new w (.cells #[.slice s0 sz.length c0, .map (some M)] 55)
  have bB := heap_alloc_new (w.alloc (.cells #[.slice s0 sz.length c0, .map (some M)] 55)) (.cells #[.slice none 0 0, .map none] 55)
  have eA := World.size_alloc w (.cells #[.slice s0 sz.length c0, .map (some M)] 55)
  rw [eA] at bB
  have HGB := Lib.hid (grown_trans gA gB)
  obtain ⟨wB, hwB⟩ : ∃ wB, (w.alloc (.cells #[.slice s0 sz.length c0, .map (some M)] 55)).alloc (.cells #[.slice none 0 0, .map none] 55) = wB := ⟨_, rfl⟩
  rw [hwB] at bB gB HGB
  have hA := (gB.block _ (heap_lt bA) (by simp)).trans bA
  have HS := Lib.hid (fun W (g : wB.grownBy W none) => show W.cell? ⟨w.heap.size, 0, none⟩ = some (.slice s0 sz.length c0) ∧ W.cell? ⟨w.heap.size, 1, none⟩ = some (.map (some M)) ∧ W.heap[w.heap.size + 1]? = some (.cells #[.slice none 0 0, .map none] 55 (0, 0)) ∧ W.cell? ⟨w.heap.size + 1, 0, none⟩ = some (.slice none 0 0) ∧ W.cell? ⟨w.heap.size + 1, 1, none⟩ = some (.map none) ∧ W.frozen? ⟨w.heap.size + 1, 0, none⟩ = false ∧ W.frozen? ⟨w.heap.size + 1, 1, none⟩ = false from by
    have h1 := (g.block _ (heap_lt hA) (by simp)).trans hA
    have h2 := (g.block _ (heap_lt bB) (by simp)).trans bB
    exact ⟨by rw [cell_of_row _ _ _ _ _ _ h1]; rfl, by rw [cell_of_row _ _ _ _ _ _ h1]; rfl, h2, by rw [cell_of_row _ _ _ _ _ _ h2]; rfl, by rw [cell_of_row _ _ _ _ _ _ h2]; rfl, frozen_of_row _ _ _ _ _ h2, frozen_of_row _ _ _ _ _ h2⟩)
  have HS2 := Lib.hid (fun W (g : wB.grownBy W none) (u v : Value) => show ((W.setCell ⟨w.heap.size + 1, 0, none⟩ u).setCell ⟨w.heap.size + 1, 1, none⟩ v).cell? ⟨w.heap.size, 0, none⟩ = some (.slice s0 sz.length c0) ∧ ((W.setCell ⟨w.heap.size + 1, 0, none⟩ u).setCell ⟨w.heap.size + 1, 1, none⟩ v).cell? ⟨w.heap.size, 1, none⟩ = some (.map (some M)) from by
    have h1 := (g.block _ (heap_lt hA) (by simp)).trans hA
    have h2 := (heap_setCell_other W ⟨w.heap.size + 1, 0, none⟩ w.heap.size u (by simp)).trans h1
    have h3 := (heap_setCell_other (W.setCell ⟨w.heap.size + 1, 0, none⟩ u) ⟨w.heap.size + 1, 1, none⟩ w.heap.size v (by simp)).trans h2
    exact ⟨by rw [cell_of_row _ _ _ _ _ _ h3]; rfl, by rw [cell_of_row _ _ _ _ _ _ h3]; rfl⟩)
  have HCl := Lib.hid (fun W (g : wB.grownBy W none) => zclone_ok (L := sz) (.inl (OwnOf.row (OwnOf.grow hz (grown_trans HGB.out g)))) (Nat.le_trans hl (by decide)))
  have HCm := Lib.hid (fun W (g : wB.grownBy W none) => cloneF_ok (hM.kept ((grown_trans HGB.out g).block _ hM.lt (by simp))))
  have hk0 := HS.out wB (grown_refl _ _)
  have hkd := HS.out wB.drew (grown_drew1 _)
  have hszB := HGB.out.size
  have hszB2 := Lib.hid (heap_lt bB)
  clear hz hM hl gA gB bA bB eA hA
  obtain ⟨n, hn⟩ : ∃ n, sz.length = n := ⟨_, rfl⟩
  have HNn := Lib.hid hn
  rw [hn] at HS HS2 HCl hk0 hkd ⊢
  try rw [hn] at hwB
  clear hn
  go_enter Tryz.func52, Tryz.ntmps52
  go_upto_region 1 with fail
  try simp only [hwB]
  clear hwB
  go_region_held3 (fun w7 => w7.cell? ⟨w.heap.size, 0, none⟩ = some (.slice s0 n c0) ∧ w7.cell? ⟨w.heap.size, 1, none⟩ = some (.map (some M))) (first | exact ⟨hk0.1, hk0.2.1⟩ | exact ⟨hkd.1, hkd.2.1⟩ | exact ⟨hk1.1, hk1.2.1⟩ | exact ⟨hk2.1, hk2.2.1⟩ | exact HS2.out _ HG6.out _ _ | fail)
    (first
      | (go_at_call 31; with_reducible refine (HCl.out _ (grown_drew1 _)).mono ?_; rintro e w5 ⟨u5, rfl, hz5, g5⟩; obtain ⟨s5, c5, hv5⟩ := zown_form17 hz5 HNn.out; subst hv5; have HG5 := Lib.hid (grown_trans (grown_drew1 wB) g5); have hk1 := HS.out _ HG5.out; have HZ5 := Lib.hid hz5; have hs5 := g5.size; clear hz5 g5)
      | (go_at_call 103; with_reducible refine (HCm.out _ HG5.out).mono ?_; rintro e w6 ⟨rfl, hm6, g6⟩; have HG6 := Lib.hid (grown_trans HG5.out g6); have hk2 := HS.out _ HG6.out; obtain ⟨-, -, q2, q3, q4, q5, q6⟩ := HS.out _ HG6.out; have HM6 := Lib.hid hm6; have HZ6 := Lib.hid (zown_grow17 HZ5.out g6); have hs6 := g6.size; clear hm6 g6)
      | fail)
  have b1 := heap_setCell_same w6 (w.heap.size + 1) 0 _ _ (.slice s5 n c5) q2
  have b2 := heap_setCell_same _ (w.heap.size + 1) 1 _ _ (.map (some w5.heap.size)) b1
  simp only [List.setIfInBounds_toArray, List.set_cons_zero, List.set_cons_succ] at b2
  have HB2 := Lib.hid b2
  have gs := grown_at (grown_at (grown_trans HGB.out HG6.out) (grown_set w6 (w.heap.size + 1) 0 (.slice s5 n c5)) (by omega)) (grown_set _ (w.heap.size + 1) 1 (.map (some w5.heap.size))) (by omega)
  have HGs := Lib.hid gs
  have ho : ∀ b, b ≠ w.heap.size + 1 → ((w6.setCell ⟨w.heap.size + 1, 0, none⟩ (.slice s5 n c5)).setCell ⟨w.heap.size + 1, 1, none⟩ (.map (some w5.heap.size))).heap[b]? = w6.heap[b]? := fun b hb =>
    (heap_setCell_other _ ⟨w.heap.size + 1, 1, none⟩ b _ (by first | exact hb | exact hb.symm)).trans (heap_setCell_other _ ⟨w.heap.size + 1, 0, none⟩ b _ (by first | exact hb | exact hb.symm))
  have hsB : w.heap.size + 1 < wB.heap.size := by
    have := hszB2.out
    exact this
  have e1 : wB.drew.heap.size = wB.heap.size := rfl
  have HZf := Lib.hid (show ZOwn ((w6.setCell ⟨w.heap.size + 1, 0, none⟩ (.slice s5 n c5)).setCell ⟨w.heap.size + 1, 1, none⟩ (.map (some w5.heap.size))) w.heap.size (.slice s5 n c5) sz from
    OwnOf.kept (OwnOf.lower HZ6.out (by omega)) fun b hb => ho b (by have := (OwnOf.lt HZ6.out hb).1; omega))
  have HMf := Lib.hid (HM6.out.kept (ho w5.heap.size (by omega)))
  have HNe := Lib.hid (show ∀ b, (Value.slice s5 n c5).ownBlock = some b → b ≠ w5.heap.size from fun b hb => by have := (OwnOf.lt HZ5.out hb).2; omega)
  have hle : w.heap.size ≤ w5.heap.size := by omega
  clear gs b1 b2 ho q2 q3 q4 q5 q6 hk0 hkd hk1 hk2
  go_wp2_with fail
  refine bodyPost_ret (results_cell_row rfl _ _ (w.heap.size + 1) _ #[.slice s5 n c5, .map (some w5.heap.size)] (0, 0) _ rfl HB2.out Tryz.underlying55 (by kernel_rfl) (by kernel_rfl)) rfl ?_
  exact ⟨_, _, rfl, HZf.out, HMf.out, hle, HNe.out, HGs.out⟩
end Go.Proofs.YtefiiooibbkffaaGreat

namespace Go.Proofs.YtefiiooibbkffaaGreat
open Go.ChangeShapes Go.WideShapes Go.ChangeAt Go.RowKit Go.Deep Go.Sort Go.Shelf
set_option linter.unusedVariables false
set_option linter.unusedSimpArgs false

def ghC (pm fm lm : Nat) (sv : Value) (h : Gh) (g2 : Int → PG) (κ : Nat → Nat) : Gh := ⟨pm, fm, lm, sv, h.fv, h.hv, g2, κ, h.sp⟩
/-- The parts of a copy, made in whatever order. -/
structure Lot (w wz : World) (h : Gh) (S : Fl) (pm2 fm2 lm2 : Nat) (sv2 : Value) : Prop where
  g : w.grownBy wz none
  z : ZOwn wz w.heap.size sv2 S.sz
  pm : MapV Tryz.prog 3 klI okW wz pm2 []
  fm : MapV Tryz.prog 153 spotL okK wz fm2 (S.F.map fun n => (n.1, h.fv n.1))
  lm : MapV Tryz.prog 3 klI okW wz lm2 (S.H.map fun n => (n.1, h.hv n.1))
  p0 : w.heap.size ≤ pm2
  f0 : w.heap.size ≤ fm2
  l0 : w.heap.size ≤ lm2
  pf : pm2 ≠ fm2
  pl : pm2 ≠ lm2
  fl : fm2 ≠ lm2
  zp : ∀ b, sv2.ownBlock = some b → b ≠ pm2 ∧ b ≠ fm2 ∧ b ≠ lm2
/-- What the blocks of a copy are for. -/
def kdW (kd : Nat → Ro) (t2 pm fm lm r : Nat) (sv : Value) : Nat → Ro := fun x => if x = pm then .w t2 .pm else if x = fm then .w t2 .fm else if x = lm then .w t2 .lm else if x = r then .w t2 .head else if sv.ownBlock = some x then .w t2 .sz else kd x
/-- A copy without processes. -/
structure Bare (w : World) (kd : Nat → Ro) (t r : Nat) (h : Gh) (S : Fl) (wx : World) (kd1 : Nat → Ro) (t2 r2 pm2 fm2 lm2 : Nat) (sv2 : Value) : Prop where
  g : w.grownBy wx none
  ch : Ch noRo kd kd1 w wx
  hw : ∀ g2 κ, HW wx kd1 t2 r2 (ghC pm2 fm2 lm2 sv2 h g2 κ) S.sz S.F S.H S.reg
  pm : ∀ g2 κ, PM wx kd1 t2 (ghC pm2 fm2 lm2 sv2 h g2 κ) []
  fw : FW wx kd1 t r h S
  p0 : w.heap.size ≤ pm2
section
variable {w wz : World} {kd : Nat → Ro} {t r : Nat} {h : Gh} {S : Fl} {pm2 fm2 lm2 : Nat} {sv2 : Value}
theorem Lot.bare (l : Lot w wz h S pm2 fm2 lm2 sv2) (k : FW w kd t r h S) (t2 : Nat) : Bare w kd t r h S (wz.alloc (.cells #[.map (some pm2), sv2, .map (some fm2), .map (some lm2), .int .i64 S.reg] 58)) (kdW kd t2 pm2 fm2 lm2 wz.heap.size sv2) t2 wz.heap.size pm2 fm2 lm2 sv2 := by
  have gx := World.grownBy_alloc wz (.cells #[.map (some pm2), sv2, .map (some fm2), .map (some lm2), .int .i64 S.reg] 58) none
  have bx := heap_alloc_new wz (.cells #[.map (some pm2), sv2, .map (some fm2), .map (some lm2), .int .i64 S.reg] 58)
  have h1 := l.p0
  have h2 := l.f0
  have h3 := l.l0
  have h4 := l.pm.lt
  have h5 := l.fm.lt
  have h6 := l.lm.lt
  have h7 := l.pf
  have h8 := l.pl
  have h9 := l.fl
  have hsz := l.g.size
  have hov : ∀ b, sv2.ownBlock = some b → w.heap.size ≤ b ∧ b < wz.heap.size := fun b hb => OwnOf.lt l.z hb
  have hch : Ch noRo kd (kdW kd t2 pm2 fm2 lm2 wz.heap.size sv2) w (wz.alloc (.cells #[.map (some pm2), sv2, .map (some fm2), .map (some lm2), .int .i64 S.reg] 58)) := (Ch.grown (R := noRo) (kd := kd) (grown_trans l.g gx)).name fun b hb => by
    have hne : ¬ sv2.ownBlock = some b := fun e => by have := (hov b e).1; omega
    unfold kdW; rw [if_neg (by omega), if_neg (by omega), if_neg (by omega), if_neg (by omega), if_neg hne]
  refine ⟨grown_trans l.g gx, hch, fun g2 κ => ⟨bx, ?_, OwnOf.grow (OwnOf.lower l.z (Nat.zero_le _)) gx, fun b hb => ?_, l.fm.kept (gx.block _ h5 (by simp)), ?_, fun n hn => (k.hw.fs n hn).ch hch (no_ro _), l.lm.kept (gx.block _ h6 (by simp)), ?_, fun n hn => (k.hw.ls n hn).ch hch (no_ro _)⟩, fun g2 κ => ⟨l.pm.kept (gx.block _ h4 (by simp)), ?_⟩, k.chNo hch, h1⟩
  · unfold kdW; rw [if_neg (by omega), if_neg (by omega), if_neg (by omega), if_pos rfl]
  · have hb2 : sv2.ownBlock = some b := hb
    obtain ⟨q1, q2, q3⟩ := l.zp b hb2
    have q4 := (hov b hb2).2
    unfold kdW; rw [if_neg q1, if_neg q2, if_neg q3, if_neg (by omega), if_pos hb2]
  · show kdW kd t2 pm2 fm2 lm2 wz.heap.size sv2 fm2 = _
    unfold kdW; rw [if_neg (by omega), if_pos rfl]
  · show kdW kd t2 pm2 fm2 lm2 wz.heap.size sv2 lm2 = _
    unfold kdW; rw [if_neg (by omega), if_neg (by omega), if_pos rfl]
  · show kdW kd t2 pm2 fm2 lm2 wz.heap.size sv2 pm2 = _
    unfold kdW; rw [if_pos rfl]
end
def pmRo (t2 : Nat) (ρ : Ro) : Prop := ρ = .w t2 .pm
/-- A copy of a world under way. -/
structure CwI (w0 : World) (kd0 : Nat → Ro) (t t2 tm M r r2 : Nat) (h : Gh) (S : Fl) (pm2 fm2 lm2 : Nat) (sv2 : Value) (rr : Nat) (wr : World) (left : Lit → Bool) (kd : Nat → Ro) (g2 : Int → PG) (κ : Nat → Nat) (T : List Nat) (D : List (Int × Pr)) : Prop where
  gm : w0.grownBy wr none
  ko : ∀ b, b < w0.heap.size → kd b = kd0 b
  fw : FW wr kd t r h S
  tw : TwS wr kd t t2 tm M h.ι κ h.sp S.c T
  hw : HW wr kd t2 r2 (ghC pm2 fm2 lm2 sv2 h g2 κ) S.sz S.F S.H S.reg
  pm : PM wr kd t2 (ghC pm2 fm2 lm2 sv2 h g2 κ) (D.map (·.1))
  pr : ∀ q, q ∈ D → PAt wr kd t2 (g2 q.1) q.1 κ q.2
  sT : ∀ q, q ∈ D → ∀ a, a ∈ q.2.A → a.2 ∈ T
  d0 : ∀ q, q ∈ D → q ∈ S.ps ∧ left (klI q.1) = false
  d1 : ∀ q, q ∈ S.ps → left (klI q.1) = false → q ∈ D
  kr : kd rr = .no
def CwL (w0 : World) (kd0 : Nat → Ro) (t t2 tm M r r2 : Nat) (h : Gh) (S : Fl) (pm2 fm2 lm2 : Nat) (sv2 : Value) (rr : Nat) (wr : World) (left : Lit → Bool) : Prop := ∃ kd g2 κ T D, CwI w0 kd0 t t2 tm M r r2 h S pm2 fm2 lm2 sv2 rr wr left kd g2 κ T D
theorem pm_nd {l : List Int} {f : Int → Value} (h : ((l.map fun i => (i, f i)).map (·.1)).Nodup) : l.Nodup := by
  rw [List.map_map] at h
  have e : l.map ((fun n : Int × Value => n.1) ∘ fun i => (i, f i)) = l := List.map_id' l
  rw [e] at h
  exact h
theorem HW.gh {w : World} {kd : Nat → Ro} {t r pm fm lm : Nat} {sv : Value} {h : Gh} {g g2 : Int → PG} {κ κ2 : Nat → Nat} {sz : List Int} {F : List ((Int × Int) × List UInt8)} {H : List (Int × Option (List UInt8))} {reg : Int} (k : HW w kd t r (ghC pm fm lm sv h g κ) sz F H reg) : HW w kd t r (ghC pm fm lm sv h g2 κ2) sz F H reg := ⟨k.head, k.kr, k.sz, k.kz, k.fm, k.kf, k.fs, k.lm, k.kl, k.ls⟩
section
variable {w0 wr : World} {kd0 kd : Nat → Ro} {t t2 tm M r r2 : Nat} {h : Gh} {S : Fl} {pm2 fm2 lm2 : Nat} {sv2 : Value} {rr : Nat} {left : Lit → Bool} {g2 : Int → PG} {κ : Nat → Nat} {T : List Nat} {D : List (Int × Pr)}
/-- Whatever turns none of it. -/
theorem CwI.ch (k : CwI w0 kd0 t t2 tm M r r2 h S pm2 fm2 lm2 sv2 rr wr left kd g2 κ T D) {R : Ro → Prop} {kd' : Nat → Ro} {w1 : World} (c : Ch R kd kd' wr w1) (g : w0.grownBy w1 none) (hrr : rr < wr.heap.size) (h0 : ¬ R .sh) (h1 : ∀ x, ¬ R (.w t x)) (h2 : ∀ x, ¬ R (.w t2 x)) (h3 : ¬ R (.w tm .head)) : CwI w0 kd0 t t2 tm M r r2 h S pm2 fm2 lm2 sv2 rr w1 left kd' g2 κ T D where
  gm := g
  ko := fun b hb => (c.kd b (Nat.lt_of_lt_of_le hb k.gm.size)).trans (k.ko b hb)
  fw := k.fw.ch c h0 h1
  tw := k.tw.ch c h0 h3 (fun _ => h1 _) (fun _ => h2 _)
  hw := k.hw.ch c h0 (h2 _) (h2 _) (h2 _) (h2 _)
  pm := k.pm.ch c (h2 _)
  pr := fun q hq => (k.pr q hq).ch c (h2 _) (h2 _) (h2 _) (h2 _)
  sT := k.sT
  d0 := k.d0
  d1 := k.d1
  kr := (c.kd _ hrr).trans k.kr
set_option maxHeartbeats 1000000 in
/-- One process more. -/
theorem CwI.add (k : CwI w0 kd0 t t2 tm M r r2 h S pm2 fm2 lm2 sv2 rr wr left kd g2 κ T D) (hok : SOk S) (hsz : ∀ q, q ∈ S.ps → ∀ x, x ∈ q.2.L → x.e - x.s ≤ 4096) (htt : t ≠ t2) (htm : t ≠ tm) (htm2 : t2 ≠ tm) (hM : w0.heap.size ≤ M) (hpm : w0.heap.size ≤ pm2) (hrr : rr < wr.heap.size) {id : Int} {p : Pr} (hq : (id, p) ∈ S.ps) (hl : left (klI id) = true) (W : World) (hW : wr.grownBy W none) :
    Calls Tryz.prog 54 #[.pointer (some ⟨(h.g id).b, 0, none⟩), .map (some M)] W fun e w' => ∃ b2, e = .returned (.pointer (some ⟨b2, 0, none⟩)) ∧ w'.cell? ⟨r2, 0, none⟩ = some (.map (some pm2)) ∧ W.grownBy w' (some M) ∧ ∃ w2, (Instr.mapUpdate 52 (.map (some pm2)) (kvI id) (.pointer (some ⟨b2, 0, none⟩))).run Tryz.prog w' = .ok () w2 ∧ w2.cell? ⟨r2, 0, none⟩ = some (.map (some pm2)) ∧ CwL w0 kd0 t t2 tm M r r2 h S pm2 fm2 lm2 sv2 rr w2 (fun z => left z && !z.sameKey (klI id)) ∧ w'.grownBy w2 (some pm2) := by
  have kW := k.ch (R := noRo) (Ch.grown hW) (grown_trans k.gm hW) hrr (no_ro _) (fun _ => no_ro _) (fun _ => no_ro _) (no_ro _)
  have hP := kW.fw.bw.get (geA_mem kW.fw.bw.nd hq)
  have hI := hok.pi _ hq
  refine (pcopied_ok (κ := κ) hP (kW.fw.bw.sl _ hq) hI.mp hI.ln (Nat.le_trans hI.al (by decide)) (hsz _ hq) kW.tw htt htm htm2).mono ?_
  rintro e w' ⟨kd', G2, κ', T', rfl, hpa, htw, ht0, hsT, ht1, hch, hgr⟩
  have hrr2 : rr < W.heap.size := Nat.lt_of_lt_of_le hrr hW.size
  have g' : w0.grownBy w' none := grown_at kW.gm hgr hM
  have k' : CwI w0 kd0 t t2 tm M r r2 h S pm2 fm2 lm2 sv2 rr w' left kd' (fun x => if x = id then G2 else g2 x) κ' T' D := by
    have hne : ∀ q, q ∈ D → q.1 ≠ id := fun q hqD e => by
      have := (kW.d0 q hqD).2
      rw [e, hl] at this
      cases this
    refine ⟨g', fun b hb => (hch.kd b (Nat.lt_of_lt_of_le hb kW.gm.size)).trans (kW.ko b hb), kW.fw.ch hch tw_sh (fun _ => tw_w htm), htw, (kW.hw.ch hch tw_sh (tw_w htm2) (tw_w htm2) (tw_w htm2) (tw_w htm2)).gh, ?_, fun q hqD => ?_, fun q hqD a ha => (ht0 _ (kW.sT q hqD a ha)).1, kW.d0, kW.d1, (hch.kd _ hrr2).trans kW.kr⟩
    · have h5 := kW.pm.ch hch (tw_w htm2)
      refine ⟨?_, h5.kp⟩
      have h6 := h5.pm
      have e : ((D.map (·.1)).map fun i => (i, Value.pointer (some ⟨((ghC pm2 fm2 lm2 sv2 h (fun x => if x = id then G2 else g2 x) κ').g i).b, 0, none⟩))) = ((D.map (·.1)).map fun i => (i, Value.pointer (some ⟨((ghC pm2 fm2 lm2 sv2 h g2 κ).g i).b, 0, none⟩))) := List.map_congr_left fun i hi => by
        obtain ⟨q, hqD, rfl⟩ := List.mem_map.1 hi
        show (q.1, Value.pointer (some ⟨(if q.1 = id then G2 else g2 q.1).b, 0, none⟩)) = _
        rw [if_neg (hne q hqD)]
        rfl
      rw [e]
      exact h6
    · show PAt w' kd' t2 (if q.1 = id then G2 else g2 q.1) q.1 κ' q.2
      rw [if_neg (hne q hqD)]
      exact ((kW.pr q hqD).ch hch (tw_w htm2) (tw_w htm2) (tw_w htm2) (tw_w htm2)).iota fun a ha => (ht0 _ (kW.sT q hqD a ha)).2
  have hok2 := okW_of (hok.io _ hq)
  have hDl : D.length ≤ 16 := by
    have hn := pm_nd k'.pm.pm.nd
    have h2 := nodup_le (l := D.map (·.1)) (m := S.ps.map (·.1)) hn fun y hy => by
      obtain ⟨d, hd, rfl⟩ := List.mem_map.1 hy
      exact List.mem_map.2 ⟨d, (k'.d0 d hd).1, rfl⟩
    rw [List.length_map, List.length_map] at h2
    exact Nat.le_trans h2 hok.pl
  obtain ⟨w2, hup, hm2, t2'⟩ := k'.pm.pm.put lawsP (by rw [List.length_map, List.length_map]; unfold maxLen; omega) (.pointer (some ⟨G2.b, 0, none⟩)) hok2
  have hdr : dropV ((D.map (·.1)).map fun i => (i, Value.pointer (some ⟨((ghC pm2 fm2 lm2 sv2 h (fun x => if x = id then G2 else g2 x) κ').g i).b, 0, none⟩))) id = ((D.map (·.1)).map fun i => (i, Value.pointer (some ⟨((ghC pm2 fm2 lm2 sv2 h (fun x => if x = id then G2 else g2 x) κ').g i).b, 0, none⟩))) := by
    unfold dropV
    refine List.filter_eq_self.2 fun n hn => ?_
    obtain ⟨i, hi, rfl⟩ := List.mem_map.1 hn
    obtain ⟨q, hqD, rfl⟩ := List.mem_map.1 hi
    refine decide_eq_true fun e => ?_
    have := (k'.d0 q hqD).2
    simp only at e
    rw [e, hl] at this
    cases this
  rw [hdr] at hm2
  have c2 : Ch (pmRo t2) kd' kd' w' w2 := Ch.one t2'.grown (by show _ = _; exact k'.pm.kp)
  have n_t : ∀ x, ¬ pmRo t2 (.w t x) := fun x e => by unfold pmRo at e; injection e with e1 e2; exact htt e1
  have n_tm : ¬ pmRo t2 (.w tm .head) := fun e => by unfold pmRo at e; injection e with e1 e2; exact htm2 e1.symm
  have n_sh : ¬ pmRo t2 .sh := fun e => by cases e
  have n2 : ∀ x, x ≠ .pm → ¬ pmRo t2 (.w t2 x) := fun x hx e => by unfold pmRo at e; injection e with e1 e2; exact hx e2
  have hw2 := k'.hw.ch c2 n_sh (n2 _ (by simp)) (n2 _ (by simp)) (n2 _ (by simp)) (n2 _ (by simp))
  refine ⟨G2.b, rfl, by have := k'.hw.at.1; exact this, hgr, w2, hup, by have := hw2.at.1; exact this, ⟨kd', (fun x => if x = id then G2 else g2 x), κ', T', (id, p) :: D, ⟨grown_at g' t2'.grown hpm, k'.ko, k'.fw.ch c2 n_sh n_t, k'.tw.ch c2 n_sh n_tm (fun _ => n_t _) (fun _ => n2 _ (by simp)), k'.hw.ch c2 n_sh (n2 _ (by simp)) (n2 _ (by simp)) (n2 _ (by simp)) (n2 _ (by simp)), ⟨?_, k'.pm.kp⟩, fun q hqD => ?_, fun q hqD => ?_, fun q hqD => ?_, fun q hqS hlq => ?_, k'.kr⟩⟩, t2'.grown⟩
  · have e : (((id, p) :: D).map (·.1)).map (fun i => (i, Value.pointer (some ⟨((ghC pm2 fm2 lm2 sv2 h (fun x => if x = id then G2 else g2 x) κ').g i).b, 0, none⟩))) = (id, Value.pointer (some ⟨G2.b, 0, none⟩)) :: ((D.map (·.1)).map fun i => (i, Value.pointer (some ⟨((ghC pm2 fm2 lm2 sv2 h (fun x => if x = id then G2 else g2 x) κ').g i).b, 0, none⟩))) := by
      rw [List.map_cons, List.map_cons]
      show (id, Value.pointer (some ⟨(if id = id then G2 else g2 id).b, 0, none⟩)) :: _ = _
      rw [if_pos rfl]
    rw [e]
    exact hm2
  · rcases List.mem_cons.1 hqD with rfl | hqD
    · show PAt w2 kd' t2 (if id = id then G2 else g2 id) id κ' p
      rw [if_pos rfl]
      exact hpa.ch c2 (n2 _ (by simp)) (n2 _ (by simp)) (n2 _ (by simp)) (n2 _ (by simp))
    · exact (k'.pr q hqD).ch c2 (n2 _ (by simp)) (n2 _ (by simp)) (n2 _ (by simp)) (n2 _ (by simp))
  · rcases List.mem_cons.1 hqD with rfl | hqD
    · exact hsT
    · exact k'.sT q hqD
  · rcases List.mem_cons.1 hqD with rfl | hqD
    · refine ⟨hq, ?_⟩
      have : (klI id).sameKey (klI id) = true := WideAt.sameKey_self (lawsP.isKey hok2)
      show (left (klI id) && !(klI id).sameKey (klI id)) = false
      rw [this]
      simp
    · obtain ⟨q1, q2⟩ := k'.d0 q hqD
      refine ⟨q1, ?_⟩
      show (left (klI q.1) && _) = false
      rw [q2]
      rfl
  · by_cases e : q.1 = id
    · have h6 := geA_mem k'.fw.bw.nd (show (q.1, q.2) ∈ S.ps from hqS)
      rw [e, geA_mem k'.fw.bw.nd hq] at h6
      have h7 : q = (id, p) := Prod.ext e (Option.some.inj h6).symm
      rw [h7]
      simp
    · refine List.mem_cons_of_mem _ (k'.d1 q hqS ?_)
      have h2 : (klI q.1).sameKey (klI id) = false := by
        cases hb : (klI q.1).sameKey (klI id) with
        | false => rfl
        | true => exact absurd (lawsP.inj _ _ (okW_of (hok.io q hqS)) hok2 (WideAt.sameKey_eq hb)) e
      have hla2 : (left (klI q.1) && !(klI q.1).sameKey (klI id)) = false := hlq
      rw [h2] at hla2
      simpa using hla2
/-- The range's own block turns. -/
theorem CwI.next (k : CwI w0 kd0 t t2 tm M r r2 h S pm2 fm2 lm2 sv2 rr wr left kd g2 κ T D) (hr : w0.heap.size ≤ rr) (hrr : rr < wr.heap.size) {w1 : World} (g : wr.grownBy w1 (some rr)) : CwI w0 kd0 t t2 tm M r r2 h S pm2 fm2 lm2 sv2 rr w1 left kd g2 κ T D :=
  k.ch (R := noOne) (Ch.one g k.kr) (grown_at k.gm g hr) hrr no_sh (fun _ => no_w) (fun _ => no_w) no_w
/-- The whole copy. -/
theorem CwI.done (k : CwI w0 kd0 t t2 tm M r r2 h S pm2 fm2 lm2 sv2 rr wr left kd g2 κ T D) (hl : ∀ kl, left kl = false) : ∃ h2, FW wr kd t2 r2 h2 S ∧ Ch noRo kd0 kd w0 wr ∧ FW wr kd t r h S := by
  have hD : D.Perm S.ps := by
    have n1 := pm_nd k.pm.pm.nd
    have n2 := k.fw.bw.nd
    exact (List.perm_ext_iff_of_nodup (List.Pairwise.of_map _ (fun a b h e => h (by rw [e])) n1) (List.Pairwise.of_map _ (fun a b h e => h (by rw [e])) n2)).2 fun a => ⟨fun ha => (k.d0 a ha).1, fun ha => k.d1 a ha (hl _)⟩
  refine ⟨ghC pm2 fm2 lm2 sv2 h g2 κ, ⟨k.hw, ⟨k.pm.pm.perm ((hD.map _).map _), k.pm.kp⟩, ⟨k.fw.bw.nd, fun q hq => k.pr q (hD.mem_iff.2 hq), fun q hq a ha => k.tw.sl _ (k.sT q (hD.mem_iff.2 hq) a ha)⟩⟩, (Ch.grown (R := noRo) (kd := kd0) k.gm).name k.ko, k.fw⟩
end
end Go.Proofs.YtefiiooibbkffaaGreat

namespace Go.Proofs.YtefiiooibbkffaaGreat
open Go.ChangeShapes Go.WideShapes Go.ChangeAt Go.RowKit Go.Deep Go.Sort Go.Shelf
set_option linter.unusedVariables false
set_option linter.unusedSimpArgs false

section
variable {w : World} {kd : Nat → Ro} {t t2 r : Nat} {h : Gh} {S : Fl}
theorem made0 (W : World) : MapV Tryz.prog 3 klI okW (W.alloc (.map #[] 0)) W.heap.size [] := MapV.made _ _ _ _ _
/-- The orders in which the parts are made. -/
theorem lot1 {w5 w6 : World} {fm2 : Nat} {sv2 : Value} (z : ZOwn w5 (w.alloc (.map #[] 0)).drew.heap.size sv2 S.sz) (m : MapV Tryz.prog 153 spotL okK w5 fm2 (S.F.map fun n => (n.1, h.fv n.1))) (f : (w.alloc (.map #[] 0)).drew.heap.size ≤ fm2) (ne : ∀ b, sv2.ownBlock = some b → b ≠ fm2) (g5 : (w.alloc (.map #[] 0)).drew.grownBy w5 none) (l : MapV Tryz.prog 3 klI okW w6 w5.heap.size (S.H.map fun n => (n.1, h.hv n.1))) (g6 : w5.grownBy w6 none) : Lot w w6 h S w.heap.size fm2 w5.heap.size sv2 := by
  have hs : (w.alloc (.map #[] 0)).drew.heap.size = w.heap.size + 1 := by show (w.alloc (.map #[] 0)).heap.size = _; simp
  rw [hs] at z f
  have h5 := g5.size
  rw [hs] at h5
  have hb := fun b hb => OwnOf.lt z (g := b) hb
  have hf := m.lt
  have gA : w.grownBy (w.alloc (.map #[] 0)).drew none := grown_trans (World.grownBy_alloc w _ none) (grown_drew1 _)
  refine ⟨grown_trans gA (grown_trans g5 g6), OwnOf.lower (zown_grow17 z g6) (by omega), ?_, m.kept (g6.block _ hf (by simp)), l, Nat.le_refl _, by omega, by omega, by omega, by omega, by omega, fun b hb2 => ⟨by have := (hb b hb2).1; omega, ne b hb2, by have := (hb b hb2).2; omega⟩⟩
  exact ((made0 w).kept ((grown_trans (grown_drew1 _) g5).block _ (by simp) (by simp))).kept (g6.block _ (by omega) (by simp))
theorem lot2 {w5 w6 : World} {fm2 : Nat} {sv2 : Value} (z : ZOwn w5 w.drew.heap.size sv2 S.sz) (m : MapV Tryz.prog 153 spotL okK w5 fm2 (S.F.map fun n => (n.1, h.fv n.1))) (f : w.drew.heap.size ≤ fm2) (ne : ∀ b, sv2.ownBlock = some b → b ≠ fm2) (g5 : w.drew.grownBy w5 none) (l : MapV Tryz.prog 3 klI okW w6 (w5.alloc (.map #[] 0)).heap.size (S.H.map fun n => (n.1, h.hv n.1))) (g6 : (w5.alloc (.map #[] 0)).grownBy w6 none) : Lot w w6 h S w5.heap.size fm2 (w5.alloc (.map #[] 0)).heap.size sv2 := by
  have hs : (w5.alloc (.map #[] 0)).heap.size = w5.heap.size + 1 := by simp
  have hw : w.drew.heap.size = w.heap.size := rfl
  rw [hw] at z f
  have h5 := g5.size
  rw [hw] at h5
  have hb := fun b hb => OwnOf.lt z (g := b) hb
  have hf := m.lt
  have gA := World.grownBy_alloc w5 (.map #[] 0) none
  have g56 := grown_trans gA g6
  rw [hs] at l ⊢
  refine ⟨grown_trans (grown_drew1 _) (grown_trans g5 g56), zown_grow17 z g56, ?_, m.kept (g56.block _ hf (by simp)), l, h5, f, by omega, by omega, by omega, by omega, fun b hb2 => ⟨by have := (hb b hb2).2; omega, ne b hb2, by have := (hb b hb2).2; omega⟩⟩
  exact (made0 w5).kept (g6.block _ (by rw [hs]; omega) (by simp))
theorem lot3 {w5 w6 : World} {fm2 : Nat} {sv2 : Value} (z : ZOwn w5 w.drew.heap.size sv2 S.sz) (m : MapV Tryz.prog 153 spotL okK w5 fm2 (S.F.map fun n => (n.1, h.fv n.1))) (f : w.drew.heap.size ≤ fm2) (ne : ∀ b, sv2.ownBlock = some b → b ≠ fm2) (g5 : w.drew.grownBy w5 none) (l : MapV Tryz.prog 3 klI okW w6 w5.heap.size (S.H.map fun n => (n.1, h.hv n.1))) (g6 : w5.grownBy w6 none) : Lot w (w6.alloc (.map #[] 0)) h S w6.heap.size fm2 w5.heap.size sv2 := by
  have hw : w.drew.heap.size = w.heap.size := rfl
  rw [hw] at z f
  have h5 := g5.size
  rw [hw] at h5
  have h6 := g6.size
  have hb := fun b hb => OwnOf.lt z (g := b) hb
  have hf := m.lt
  have hll := l.lt
  have gA := World.grownBy_alloc w6 (.map #[] 0) none
  have g56 := grown_trans g6 gA
  refine ⟨grown_trans (grown_drew1 _) (grown_trans g5 g56), zown_grow17 z g56, made0 w6, m.kept (g56.block _ hf (by simp)), l.kept (gA.block _ hll (by simp)), by omega, f, h5, by omega, by omega, by omega, fun b hb2 => ⟨by have := (hb b hb2).2; omega, ne b hb2, by have := (hb b hb2).2; omega⟩⟩
set_option maxRecDepth 100000 in
set_option maxHeartbeats 32000000 in
theorem copy_ok (k : FW w kd t r h S) (hok : SOk S) (hsz : ∀ q, q ∈ S.ps → ∀ x, x ∈ q.2.L → x.e - x.s ≤ 4096) (htt : t ≠ t2) :
    Calls Tryz.prog 18 #[.pointer (some ⟨r, 0, none⟩)] w fun e w' => ∃ r2 kd2 h2, e = .returned (.pointer (some ⟨r2, 0, none⟩)) ∧ FW w' kd2 t2 r2 h2 S ∧ Ch noRo kd kd2 w w' ∧ FW w' kd2 t r h S := by
  obtain ⟨tm, htm, htm2⟩ : ∃ tm, t ≠ tm ∧ t2 ≠ tm := ⟨t + t2 + 1, by omega, by omega⟩
  have HK := Lib.hid k
  have HOk := Lib.hid hok
  have HSz := Lib.hid hsz
  have k0 := k.hw.at.1
  have HM := Lib.hid (isMade_ok k0)
  obtain ⟨s0, c0, hsv⟩ := zown_form17 k.hw.sz rfl
  have HFc := Lib.hid (fun W (g : w.grownBy W none) => fcopied_ok (k.grow g).hw.sz hok.hl (k.grow g).hw.fm)
  have HHc := Lib.hid (fun W (g : w.grownBy W none) => cloneH_ok (k.grow g).hw.lm)
  have HS := Lib.hid (fun W (g : w.grownBy W none) => (k.grow g).hw.at)
  have gD0 := grown_drew1 w
  have gD1 : w.grownBy (w.alloc (.map #[] 0)).drew none := grown_trans (World.grownBy_alloc w _ none) (grown_drew1 _)
  have hk0 := HS.out w (grown_refl _ _)
  have hkd := HS.out w.drew gD0
  have hkm := HS.out (w.alloc (.map #[] 0)).drew gD1
  have hmk := fun W : World => (show (Instr.makeMap 52 none).run Tryz.prog W = .ok (.map (some W.heap.size)) (W.alloc (.map #[] 0)) from rfl)
  have hmk2 := fun W : World => (show (Instr.makeMap 96 none).run Tryz.prog W = .ok (.map (some W.heap.size)) (W.alloc (.map #[] 0)) from rfl)
  have HSv := Lib.hid hsv
  rw [hsv] at hk0 hkd hkm HFc HS
  obtain ⟨n, hn⟩ : ∃ n, S.sz.length = n := ⟨_, rfl⟩
  have HNn := Lib.hid hn
  rw [hn] at hk0 hkd hkm HFc HS
  have HD0 := Lib.hid gD0
  have HD1 := Lib.hid gD1
  clear k hok hsz hsv hn gD0 gD1
  go_enter Tryz.func18, Tryz.ntmps18
  go_wp2_with fail
  refine HM.out.mono ?_
  rintro e w2 ⟨rfl, e2⟩
  subst e2
  go_upto_region 3 with fail
  go_cut [3] from 10 to 26 (fun v wx => ∃ (r2 pm2 fm2 lm2 : Nat) (sv2 : Value) (kd1 : Nat → Ro), v = .pointer (some ⟨r2, 0, none⟩) ∧ Hid (Bare w2 kd t r h S wx kd1 t2 r2 pm2 fm2 lm2 sv2))
  case first =>
    go_region_held3 (fun w7 => w7.cell? ⟨r, 0, none⟩ = some (.map (some h.pm)) ∧ w7.cell? ⟨r, 1, none⟩ = some (.slice s0 n c0) ∧ w7.cell? ⟨r, 2, none⟩ = some (.map (some h.fm)) ∧ w7.cell? ⟨r, 3, none⟩ = some (.map (some h.lm)) ∧ w7.cell? ⟨r, 4, none⟩ = some (.int .i64 S.reg)) (first | exact hk0 | exact hkd | exact hkm | exact hk5 | exact hk5m | exact hk6 | exact hk6m | exact HS.out _ (grown_trans HG6.out (World.grownBy_alloc _ _ none)) | exact HS.out _ (grown_trans (grown_trans HG6.out (World.grownBy_alloc _ _ none)) (World.grownBy_alloc _ _ none)) | fail)
      (first
        | (go_at_call 52; with_reducible refine (HFc.out _ (by first | exact HD0.out | exact HD1.out)).mono ?_; rintro e w5 ⟨sv2, fm2, rfl, hz5, hm5, hf5, hn5, g5⟩; obtain ⟨s5, c5, hv5⟩ := zown_form17 hz5 HNn.out; subst hv5; have HG5 := Lib.hid (show w2.grownBy w5 none from by first | exact grown_trans HD0.out g5 | exact grown_trans HD1.out g5); have hk5 := HS.out _ HG5.out; have hk5m := HS.out _ (grown_trans HG5.out (World.grownBy_alloc w5 (.map #[] 0) none)); have HA5 := Lib.hid (And.intro hz5 (And.intro hm5 (And.intro hf5 (And.intro hn5 g5)))); clear hz5 hm5 hf5 hn5 g5)
        | (go_at_call 53; with_reducible refine (HHc.out _ (by first | exact HG5.out | exact grown_trans HG5.out (World.grownBy_alloc _ _ none))).mono ?_; rintro e w6 ⟨rfl, hm6, g6⟩; have HG6 := Lib.hid (show w2.grownBy w6 none from by first | exact grown_trans HG5.out g6 | exact grown_trans (grown_trans HG5.out (World.grownBy_alloc _ _ none)) g6); have hk6 := HS.out _ HG6.out; have hk6m := HS.out _ (grown_trans HG6.out (World.grownBy_alloc w6 (.map #[] 0) none)); have HA6 := Lib.hid (And.intro hm6 g6); clear hm6 g6)
        | fail)
    all_goals
      go_wp2_with fail
      go_meet
      case rel =>
        first
          | exact ⟨_, _, _, _, _, _, rfl, Lib.hid ((lot1 HA5.out.1 HA5.out.2.1 HA5.out.2.2.1 HA5.out.2.2.2.1 HA5.out.2.2.2.2 HA6.out.1 HA6.out.2).bare HK.out t2)⟩
          | (have hbr := (lot3 HA5.out.1 HA5.out.2.1 HA5.out.2.2.1 HA5.out.2.2.2.1 HA5.out.2.2.2.2 HA6.out.1 HA6.out.2).bare HK.out t2
             simp only [World.size_alloc] at hbr
             exact ⟨_, _, _, _, _, _, rfl, Lib.hid hbr⟩)
          | (have hbr := (lot2 HA5.out.1 HA5.out.2.1 HA5.out.2.2.1 HA5.out.2.2.2.1 HA5.out.2.2.2.2 HA6.out.1 HA6.out.2).bare HK.out t2
             simp only [World.size_alloc] at hbr
             exact ⟨_, _, _, _, _, _, rfl, Lib.hid hbr⟩)
          | fail
  case rest =>
    obtain ⟨r2, pm2, fm2, lm2, sv2, kd1, rfl, HBr⟩ := hcut
    have c1 := Ch.new noRo kd1 wc (.map #[] 0) (.w tm .head)
    have hF1 := HBr.out.fw.ch c1 (no_ro _) (fun _ => no_ro _)
    have cr := hF1.hw.at.1
    obtain ⟨E, hown, hperm⟩ := hF1.pm.pm.own
    have hN : ((S.ps.map (·.1)).map fun id => (id, Value.pointer (some ⟨(h.g id).b, 0, none⟩))).length = S.ps.length := by simp
    rw [hN] at hown
    have HE := Lib.hid hperm
    have HPm := Lib.hid hF1.pm.pm
    have hszM : (wc.alloc (.map #[] 0)).heap.size = wc.heap.size + 1 := by simp
    have HSzM := Lib.hid hszM
    clear hF1 hperm hN hk0 hkd hkm hszM c1
    go_wp2_with (at_range; refine wpList_range_own _ rfl _ 52 rfl 3 68 lawsP.keyed lawsP.und heldR h.pm S.ps.length _ rfl hown ?_; intro w0 hrg0 hg0 hs0)
    go_frame
    rw [HSzM.out] at hrg0 hs0 ⊢
    have c1 := Ch.new noRo kd1 wc (.map #[] 0) (.w tm .head)
    have c2 : Ch noRo (upd kd1 wc.heap.size (.w tm .head)) (upd (upd kd1 wc.heap.size (.w tm .head)) (wc.heap.size + 1) .no) _ w0 := (Ch.grown hg0).name fun b hb => upd_ne _ _ (by rw [HSzM.out] at hb; omega)
    have c12 := c1.trans c2
    have HH0 := Lib.hid (show ∀ q, q ∈ S.ps → Maps.has (DataW.map E) (klI q.1) = true from fun q hq => (has_iff HPm.out HE.out lawsP (okW_of (HOk.out.io q hq))).2 ⟨_, List.mem_map.2 ⟨q.1, List.mem_map.2 ⟨q, hq, rfl⟩, rfl⟩, rfl⟩)
    have hwc : w2.heap.size ≤ wc.heap.size := HBr.out.g.size
    have HI0 := Lib.hid (show CwL w2 kd t t2 tm wc.heap.size r r2 h S pm2 fm2 lm2 sv2 (wc.heap.size + 1) w0 (Maps.has (DataW.map E)) from
      ⟨_, fun _ => ⟨0, 0, 0, .pointer none⟩, fun _ => 0, [], [], ⟨grown_trans HBr.out.g (grown_trans (World.grownBy_alloc wc _ none) hg0), fun b hb => ((c12.kd b (by omega)).trans (HBr.out.ch.kd b hb)), HBr.out.fw.ch c12 (no_ro _) (fun _ => no_ro _), (⟨(Tw.made wc h.ι _), upd_same _ _ _, fun s hs => (by cases hs), fun s hs => (by cases hs)⟩ : TwS (wc.alloc (.map #[] 0)) (upd kd1 wc.heap.size (.w tm .head)) t t2 tm wc.heap.size h.ι (fun _ => 0) h.sp S.c []).ch c2 (no_ro _) (no_ro _) (fun _ => no_ro _) (fun _ => no_ro _), (HBr.out.hw _ _).ch c12 (no_ro _) (no_ro _) (no_ro _) (no_ro _) (no_ro _), (HBr.out.pm _ _).ch c12 (no_ro _), fun q hq => (by cases hq), fun q hq => (by cases hq), fun q hq => (by cases hq), fun q hq hl => (by rw [HH0.out q hq] at hl; cases hl), upd_same _ _ _⟩⟩)
    have HR0 := Lib.hid hrg0
    have hp0 := HBr.out.p0
    have hp1 := (HBr.out.pm (fun _ => ⟨0, 0, 0, .pointer none⟩) fun _ => 0).pm.lt
    have hp2 : pm2 < wc.heap.size := hp1
    have hhp : h.pm < w2.heap.size := HK.out.pm.pm.lt
    clear hrg0 hg0 hs0 hown c1 c2 c12 cr HBr hp1 HSzM
    obtain ⟨M, hM⟩ : ∃ M, wc.heap.size = M := ⟨_, rfl⟩
    rw [hM] at hwc hp2
    try simp only [hM] at HI0 HR0 ⊢
    clear hM
    obtain ⟨rr, hrr⟩ : ∃ rr, M + 1 = rr := ⟨_, rfl⟩
    rw [hrr] at HI0 HR0
    try simp only [hrr]
    have hrw : w2.heap.size ≤ rr := by omega
    have hrM : rr ≠ M := by omega
    have hrp : rr ≠ pm2 := by omega
    clear hrr
    go_loopw [] (fun wr => ∃ (left : Lit → Bool) (cnt : Nat), Hid (wr.ranges Tryz.prog 3 heldR h.pm rr S.ps.length (.map E) left cnt) ∧ Hid (CwL w2 kd t t2 tm M r r2 h S pm2 fm2 lm2 sv2 rr wr left)) (fun wr => wr.rangeLeft h.pm rr)
    case atStart => exact ⟨_, _, HR0, HI0⟩
    case round =>
      clear HR0 HI0 HH0
      obtain ⟨left, cnt, HRg, HI⟩ := hrel
      have hrg := HRg.out
      go_wp2_with (at_next; refine wpList_next_ranges _ rfl _ rfl 3 lawsP.keyed heldR kvI _root_.id (fun key kl hk => by obtain ⟨x, hx, _⟩ := Maps.keyOf_int_inv Tryz.underlying3 hk; exact ⟨x, hx⟩) (fun v y hv => ⟨v, rfl⟩) h.pm rr S.ps.length (.map E) left cnt rfl hrg ?_ ?_)
      · intro hc0 hl0
        obtain ⟨kd', g2, κ', T', D, hI⟩ := HI.out
        obtain ⟨h2, hf2, hcf, hf1⟩ := hI.done hl0
        have HFin := Lib.hid (And.intro hf2 (And.intro hcf hf1))
        clear hI hf2 hcf hf1 hrg HRg HI
        go_wp2_with fail
        go_ret
        exact ⟨r2, kd', h2, rfl, HFin.out⟩
      · intro x cv kl ya yb wn cnt1 hkey hlk hRv hat hrg1 hlt hg1 hs1 hen
        obtain ⟨x', ex, rfl, hwx⟩ := Maps.keyOf_int_inv Tryz.underlying3 hkey
        have ex2 : x = x' := by unfold kvI at ex; injection ex
        subst ex2
        have hin : ∃ q, q ∈ S.ps ∧ q.1 = x := by
          by_cases hno : ∀ n, n ∈ (S.ps.map (·.1)).map (fun id => (id, Value.pointer (some ⟨(h.g id).b, 0, none⟩))) → n.1 ≠ x
          · exfalso
            have k1 := (hat (.held (.bool true))).trans (hat (.held (.bool false))).symm
            rw [show Lit.int .i64 x = klI x from rfl, at_no HPm.out lawsP HE.out hwx hno, at_no HPm.out lawsP HE.out hwx hno] at k1
            injection k1 with k2
            injection k2 with k3
            cases k3
          · obtain ⟨n, hn⟩ := Classical.not_forall.1 hno
            obtain ⟨hn1, hn2⟩ := Classical.not_imp.1 hn
            have hn3 : n.1 = x := Classical.not_not.1 hn2
            obtain ⟨y, hy, rfl⟩ := List.mem_map.1 hn1
            obtain ⟨q, hq, rfl⟩ := List.mem_map.1 hy
            exact ⟨q, hq, hn3⟩
        obtain ⟨⟨x2, p⟩, hq, hqx⟩ := hin
        simp only at hqx
        subst hqx
        have hya := hat (.held (.pointer none))
        rw [show Lit.int .i64 x2 = klI x2 from rfl, at_yes HPm.out lawsP HE.out (x := x2) (a := .pointer (some ⟨(h.g x2).b, 0, none⟩)) (List.mem_map.2 ⟨x2, List.mem_map.2 ⟨_, hq, rfl⟩, rfl⟩)] at hya
        subst hya
        have hc : cv = .pointer (some ⟨(h.g x2).b, 0, none⟩) := by
          unfold heldR at hRv
          simp at hRv
          exact hRv.1
        subst hc
        obtain ⟨kd', g2, κ', T', D, hI⟩ := HI.out
        have hIn := hI.next hrw hrg.lt hg1
        have HAd := Lib.hid (fun W (g : wn.grownBy W none) => hIn.add HOk.out HSz.out htt htm htm2 hwc hp0 hrg1.lt hq (show left (klI x2) = true from hlk) W g)
        have hk0 := hIn.hw.at.1
        have hkd := (hIn.hw.ch (R := noRo) (Ch.grown (grown_drew1 wn)) (no_ro _) (no_ro _) (no_ro _) (no_ro _) (no_ro _)).at.1
        try simp only [ghC] at hk0 hkd
        have HRg1 := Lib.hid hrg1
        have HM0 := Lib.hid (show wn.rangeLeft h.pm rr < wr.rangeLeft h.pm rr by rw [hrg1.left_eq, hrg.left_eq]; exact hlt)
        clear hI hIn hrg hrg1 hat hRv hkey hlk hg1 hs1 ex hwx hlt HRg HI hq
        go_upto_region 8 with fail
        go_region_held3 (fun w7 => w7.cell? ⟨r2, 0, none⟩ = some (.map (some pm2))) (first | exact hk0 | exact hkd | exact hk5 | exact hk6 | fail)
          (first
            | (go_at_call 54; with_reducible refine (HAd.out _ (grown_drew1 _)).mono ?_; rintro e w5 ⟨b2, rfl, hk5, hg5, w6, hup, hk6, hI, hg6⟩; have HI6 := Lib.hid hI; have HG5 := Lib.hid hg5; have HG6 := Lib.hid hg6; clear hI hg5 hg6)
            | fail)
        have hr5 := (HRg1.out.kept (grown_drew1 wn) (by simp) (by simp)).kept HG5.out (by intro e; have := Option.some.inj e; omega) (by intro e; exact hrM (Option.some.inj e))
        have hr6 := hr5.kept HG6.out (by intro e; have := Option.some.inj e; omega) (by intro e; exact hrp (Option.some.inj e))
        have HR2 := Lib.hid hr6
        have HMs := Lib.hid (show w6.rangeLeft h.pm rr < wr.rangeLeft h.pm rr by rw [hr6.left_eq, ← HRg1.out.left_eq]; exact HM0.out)
        clear hr5 hr6 hup hk5 hk6 hk0 hkd HAd HRg1 HM0
        go_wp2_with fail
        go_roundw
        case rel => exact ⟨_, cnt1, HR2, HI6⟩
        case measure => exact HMs.out
end
end Go.Proofs.YtefiiooibbkffaaGreat
