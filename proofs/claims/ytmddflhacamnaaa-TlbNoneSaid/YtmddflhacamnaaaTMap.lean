/- Package tlb's map from keys to entries, by the plain list of what it holds; over the types of package tlb alone. -/
import Derived.Test.YtmddflhacamnaaaTOk
import Derived.Maps.OwnSet
import Derived.DeepKeys4
namespace Go.Proofs.Ytmddflhacamnaaa
open Go.ChangeShapes Go.WideShapes Go.ChangeAt Go.RowKit Go.Deep
open Go.Maps (Keyed)
set_option linter.unusedVariables false

theorem laidT : laidOutB Try.prog = true := by kernel_rfl
theorem key_keyed : Keyed Try.prog 29 := Keyed.of_law (deep_law_laid laidT (m := 2) (by omega) (of_decide_eq_true (by kernel_rfl)) (by kernel_rfl) (by rw [Try.underlying29]))

def keyL (a v : Int) : Lit := .string (keyBytes [.int .i64 a, .int .i64 v])

theorem wf_okI {x : Int} (h : okI x) : (Lit.int .i64 x).wf = true := by
  have h1 := h.1
  have h2 := h.2
  simp [Lit.wf, IntKind.min, IntKind.max, IntKind.signed, IntKind.bits]
  omega

theorem key_key {a v : Int} (ha : okI a) (hv : okI v) : keyOf Try.prog 29 (keyV a v) = some (keyL a v) := by
  have hkt : Try.prog.keyType 29 = true := by kernel_rfl
  have hcs : Try.prog.cellsOf 29 = 2 := by kernel_rfl
  have hci : Try.prog.cellsOf 3 = 1 := by kernel_rfl
  obtain ⟨m, hm⟩ : ∃ m, Try.prog.types.size = m + 1 := ⟨Try.prog.types.size - 1, by have : 0 < Try.prog.types.size := of_decide_eq_true (by kernel_rfl); omega⟩
  have w1 := wf_okI ha
  have w2 := wf_okI hv
  unfold keyOf keyV keyL
  simp only [Try.underlying29]
  rw [if_pos (by simp [hkt, Value.formed, Try.underlying29, hcs]), hm]
  unfold Program.keyLits
  simp only [Try.underlying29, Value.cells]
  rw [if_pos (by simp [hcs])]
  simp [hci, Program.keyLits, Try.underlying3, w1, w2]

theorem keyL_inj {a v a' v' : Int} (ha : okI a) (hv : okI v) (ha' : okI a') (hv' : okI v') (h : keyL a v = keyL a' v') : a = a' ∧ v = v' := by
  have e : keyV a v = keyV a' v' := key_keyed.inj (key_key ha hv) (by rw [key_key ha' hv', h])
  unfold keyV at e
  simpa using e
theorem keyL_isKey {a v : Int} (ha : okI a) (hv : okI v) : WideAt.IsKeyLit (keyL a v) := key_keyed.key (key_key ha hv)

def heldT (v : Value) : Option (DataW Value × List MemPlace) := some (.held v, [])
def entV (x : KeptV) : Value := .agg #[.int .i64 x.fl, .int .i64 x.pp]
def pairL (x : KeptV) : Lit × DataW Value := (keyL x.a x.v, .held (entV x))

/-- No key twice; each a key of two ints. -/
structure Keys (xs : List KeptV) : Prop where
  apart : xs.Pairwise fun x y => ¬ (x.a = y.a ∧ x.v = y.v)
  ok : ∀ x, x ∈ xs → okKey x

theorem apart_one {xs : List KeptV} (h : xs.Pairwise fun x y => ¬ (x.a = y.a ∧ x.v = y.v)) {x y : KeptV} (hx : x ∈ xs) (hy : y ∈ xs) (ha : x.a = y.a) (hv : x.v = y.v) : x = y := by
  induction xs with
  | nil => cases hx
  | cons z zs ih =>
    rw [List.pairwise_cons] at h
    rcases List.mem_cons.1 hx with e1 | hx1
    · rcases List.mem_cons.1 hy with e2 | hy1
      · rw [e1, e2]
      · exact absurd (e1 ▸ ⟨ha, hv⟩) (h.1 y hy1)
    · rcases List.mem_cons.1 hy with e2 | hy1
      · exact absurd (e2 ▸ ⟨ha.symm, hv.symm⟩) (h.1 x hx1)
      · exact ih h.2 hx1 hy1

theorem Keys.sub {xs ys : List KeptV} (h : Keys xs) (hs : ys.Sublist xs) : Keys ys := ⟨h.apart.sublist hs, fun x hx => h.ok x (hs.subset hx)⟩
theorem Keys.drop {xs : List KeptV} (h : Keys xs) (q : KeptV → Bool) : Keys (dropK q xs) := h.sub (List.filter_sublist)

theorem sameK_iff {a v : Int} {x : KeptV} : sameK a v x = true ↔ x.a = a ∧ x.v = v := by unfold sameK; simp

/-- Block M is a map that holds what the list says. -/
def MapT (w : World) (M : Nat) (xs : List KeptV) : Prop := ∃ L, w.ownsMap Try.prog 29 heldT M L.length (.map L) ∧ L.Perm (xs.map pairL)

theorem tightT {w : World} {M n : Nat} {L : List (Lit × DataW Value)} (h : w.ownsMap Try.prog 29 heldT M n (.map L)) : w.ownsMap Try.prog 29 heldT M L.length (.map L) := by
  obtain ⟨es, clock, hb, F, hs, hD⟩ := h
  refine ⟨es, clock, hb, F, ?_, hD⟩
  have := congrArg (fun d : DataW Value => match d with | .map l => l.length | _ => 0) hD
  simp only [length_sorted, List.length_map, Array.length_toList] at this
  omega

section
variable {w w' : World} {M : Nat} {xs ys : List KeptV}
theorem MapT.perm (h : MapT w M xs) (hp : xs.Perm ys) : MapT w M ys := by
  obtain ⟨L, ho, hl⟩ := h
  exact ⟨L, ho, hl.trans (hp.map _)⟩
theorem MapT.lt (h : MapT w M xs) : M < w.heap.size := by obtain ⟨L, ho, _⟩ := h; exact ho.lt
theorem MapT.isMap (h : MapT w M xs) : ∃ es clock, w.heap[M]? = some (.map es clock) := by obtain ⟨L, ⟨es, clock, hb, _⟩, _⟩ := h; exact ⟨es, clock, hb⟩
theorem MapT.kept (h : MapT w M xs) (hb : w'.heap[M]? = w.heap[M]?) : MapT w' M xs := by
  obtain ⟨L, ⟨es, clock, h1, h2⟩, hl⟩ := h
  exact ⟨L, ⟨es, clock, hb.trans h1, h2⟩, hl⟩
theorem MapT.made (w : World) : MapT (w.alloc (.map #[] 0)) w.heap.size [] := ⟨[], World.ownsMap_made _ _ _ _, by simp⟩
theorem MapT.ne_cells {b : Nat} {cs : Array Value} {t : TypeId} {fr : Nat × Nat} (h : MapT w M xs) (hb : w.heap[b]? = some (.cells cs t fr)) : M ≠ b := fun e => by
  obtain ⟨es, clock, h1⟩ := h.isMap
  rw [e, hb] at h1
  cases h1

theorem zero_entry (w : World) : (zeroValue 31).run Try.prog w = .ok (.agg #[.int .i64 0, .int .i64 0]) w := by kernel_rfl

theorem perm_find {L : List (Lit × DataW Value)} (hp : L.Perm (xs.map pairL)) (hk : Keys xs) {a v : Int} (ha : okI a) (hv : okI v) :
    L.find? (fun p => p.1.sameKey (keyL a v)) = (xs.find? (sameK a v)).map pairL := by
  cases hx : xs.find? (sameK a v) with
  | none =>
    refine List.find?_eq_none.2 fun p hpm he => ?_
    obtain ⟨y, hy, rfl⟩ := List.mem_map.1 (hp.mem_iff.1 hpm)
    have := keyL_inj (hk.ok y hy).1 (hk.ok y hy).2 ha hv (WideAt.sameKey_eq he)
    exact List.find?_eq_none.1 hx y hy (sameK_iff.2 this)
  | some x =>
    have h1 := sameK_iff.1 (List.find?_some hx)
    have h2 := List.mem_of_find?_eq_some hx
    cases hf : L.find? (fun p => p.1.sameKey (keyL a v)) with
    | none =>
      have := List.find?_eq_none.1 hf _ (hp.mem_iff.2 (List.mem_map.2 ⟨x, h2, rfl⟩))
      unfold pairL at this
      rw [h1.1, h1.2] at this
      exact absurd (WideAt.sameKey_self (keyL_isKey ha hv)) this
    | some p =>
      have g1 := List.find?_some hf
      obtain ⟨y, hy, rfl⟩ := List.mem_map.1 (hp.mem_iff.1 (List.mem_of_find?_eq_some hf))
      have g2 := keyL_inj (hk.ok y hy).1 (hk.ok y hy).2 ha hv (WideAt.sameKey_eq g1)
      rw [apart_one hk.apart hy h2 (g2.1.trans h1.1.symm) (g2.2.trans h1.2.symm)]
      rfl

/-- 'e, ok := m[k]'. -/
theorem MapT.look (h : MapT w M xs) (hk : Keys xs) {a v : Int} (ha : okI a) (hv : okI v) :
    (Instr.lookup 55 (.map (some M)) (keyV a v) true).run Try.prog w = .ok (findV xs a v) w := by
  obtain ⟨L, ho, hp⟩ := h
  obtain ⟨u, ps, hrun, hu⟩ := ho.look_ok key_keyed Try.underlying55 (zero_entry w) (zd := .held (.agg #[.int .i64 0, .int .i64 0])) (zp := []) rfl (key_key ha hv)
  rw [hrun]
  have hf := perm_find hp hk ha hv
  have hhas : Maps.has (DataW.map L) (keyL a v) = (xs.find? (sameK a v)).isSome := by
    rw [show (xs.find? (sameK a v)).isSome = ((xs.find? (sameK a v)).map pairL).isSome by simp, ← hf]
    show L.any (fun p => p.1.sameKey (keyL a v)) = _
    rw [Bool.eq_iff_iff, List.any_eq_true, List.find?_isSome]
  unfold DataW.atKey at hu
  simp only at hu
  rw [hf] at hu
  rw [hhas]
  cases hx : xs.find? (sameK a v) with
  | none =>
    rw [hx] at hu
    rw [findV_none hx]
    simp [heldT] at hu
    rw [hu.1]
    rfl
  | some x =>
    rw [hx] at hu
    rw [findV_some hx]
    simp [heldT, pairL, entV] at hu
    rw [hu.1]
    rfl

theorem perm_strike {L : List (Lit × DataW Value)} (hp : L.Perm (xs.map pairL)) (hk : ∀ x, x ∈ xs → okKey x) {a v : Int} (ha : okI a) (hv : okI v) : (L.filter (ChangeMaps.notKey (keyL a v))).Perm ((dropK (sameK a v) xs).map pairL) := by
  refine (hp.filter _).trans ?_
  unfold dropK
  rw [List.filter_map]
  rw [show xs.filter (ChangeMaps.notKey (keyL a v) ∘ pairL) = xs.filter (fun x => !sameK a v x) from List.filter_congr fun x hx => ?_]
  show (!(keyL x.a x.v).sameKey (keyL a v)) = !sameK a v x
  congr 1
  cases hs : sameK a v x with
  | true =>
    have h1 := sameK_iff.1 hs
    rw [h1.1, h1.2]
    exact WideAt.sameKey_self (keyL_isKey ha hv)
  | false =>
    cases hq : (keyL x.a x.v).sameKey (keyL a v) with
    | false => rfl
    | true =>
      have := keyL_inj (hk x hx).1 (hk x hx).2 ha hv (WideAt.sameKey_eq hq)
      rw [sameK_iff.2 this] at hs
      cases hs

/-- 'm[k] = v'. -/
theorem MapT.put (h : MapT w M xs) (hk : ∀ x, x ∈ xs → okKey x) (hl : xs.length < maxLen) {y : KeptV} (hy : okKey y) :
    ∃ w', (Instr.mapUpdate 55 (.map (some M)) (keyV y.a y.v) (entV y)).run Try.prog w = .ok () w' ∧ MapT w' M (y :: dropK (sameK y.a y.v) xs) ∧ w.mapTurned w' M := by
  obtain ⟨L, ho, hp⟩ := h
  have hlen : L.length < maxLen := by rw [hp.length_eq, List.length_map]; exact hl
  obtain ⟨w', hrun, ho', ht⟩ := ho.store key_keyed Try.underlying55 hlen (val := entV y) (key_key hy.1 hy.2) rfl
  rw [DataW.put_eq] at ho'
  have hp2 : (ChangeMaps.putKey (keyL y.a y.v) (DataW.held (entV y)) L).Perm ((keyL y.a y.v, DataW.held (entV y)) :: L.filter (ChangeMaps.notKey (keyL y.a y.v))) := Go.WideShapes.insert_perm _ _
  refine ⟨w', hrun, ⟨_, tightT ho', hp2.trans ?_⟩, ht⟩
  rw [List.map_cons]
  exact (perm_strike hp hk hy.1 hy.2).cons _

/-- 'delete(m, k)'. -/
theorem MapT.strike (h : MapT w M xs) (hk : ∀ x, x ∈ xs → okKey x) {a v : Int} (ha : okI a) (hv : okI v) (ty : TypeId) :
    ∃ w', (Builtin.delete_ #[55, 29] ty #[.map (some M), keyV a v]).run Try.prog w = .ok (.tuple #[]) w' ∧ MapT w' M (dropK (sameK a v) xs) ∧ w.mapTurned w' M := by
  obtain ⟨L, ho, hp⟩ := h
  obtain ⟨w', hrun, ho', ht⟩ := ho.drop key_keyed Try.underlying55 (key_key ha hv) ty
  rw [DataW.del_eq] at ho'
  exact ⟨w', hrun, ⟨_, tightT ho', perm_strike hp hk ha hv⟩, ht⟩
end

/-! ### what a call makes of the list -/
theorem known_key {xs : List KeptV} (hk : Keys xs) {y : KeptV} {i : Nat} (h : xs.findIdx? (sameK y.a y.v) = some i) : (y :: dropK (sameK y.a y.v) xs).Perm (xs.set i y) ∧ Keys (xs.set i y) := by
  obtain ⟨hi, h1, h2⟩ := List.findIdx?_eq_some_iff_getElem.1 h
  have hs := sameK_iff.1 h1
  have hy : okKey y := by
    have := hk.ok xs[i] (List.getElem_mem hi)
    unfold okKey at *
    rw [← hs.1, ← hs.2]
    exact this
  have e0 : xs = xs.take i ++ xs[i] :: xs.drop (i + 1) := by rw [← List.drop_eq_getElem_cons hi, List.take_append_drop]
  have e1 : xs.set i y = xs.take i ++ y :: xs.drop (i + 1) := List.set_eq_take_append_cons_drop ▸ by rw [if_pos hi]
  have hap := hk.apart
  rw [e0, List.pairwise_append, List.pairwise_cons] at hap
  obtain ⟨ha1, ⟨ha2, ha3⟩, ha4⟩ := hap
  have f1 : (xs.take i).filter (fun x => !sameK y.a y.v x) = xs.take i := List.filter_eq_self.2 fun x hx => by
    cases hc : sameK y.a y.v x with
    | false => rfl
    | true =>
      have := sameK_iff.1 hc
      exact absurd ⟨this.1.trans hs.1.symm, this.2.trans hs.2.symm⟩ (ha4 x hx xs[i] List.mem_cons_self)
  have f2 : (xs.drop (i + 1)).filter (fun x => !sameK y.a y.v x) = xs.drop (i + 1) := List.filter_eq_self.2 fun x hx => by
    cases hc : sameK y.a y.v x with
    | false => rfl
    | true =>
      have := sameK_iff.1 hc
      exact absurd ⟨hs.1.trans this.1.symm, hs.2.trans this.2.symm⟩ (ha2 x hx)
  have e2 : dropK (sameK y.a y.v) xs = xs.take i ++ xs.drop (i + 1) := by
    unfold dropK
    conv => lhs; rw [e0]
    rw [List.filter_append, List.filter_cons_of_neg (by rw [h1]; simp), f1, f2]
  refine ⟨by rw [e1, e2]; exact List.perm_middle.symm, ?_, ?_⟩
  · rw [e1, List.pairwise_append, List.pairwise_cons]
    refine ⟨ha1, ⟨fun x hx => by rw [← hs.1, ← hs.2]; exact ha2 x hx, ha3⟩, fun x hx z hz => ?_⟩
    rcases List.mem_cons.1 hz with rfl | hz
    · rw [← hs.1, ← hs.2]; exact ha4 x hx xs[i] List.mem_cons_self
    · exact ha4 x hx z (List.mem_cons_of_mem _ hz)
  · intro x hx
    rcases List.mem_or_eq_of_mem_set hx with hx | rfl
    · exact hk.ok x hx
    · exact hy

theorem none_drop {xs : List KeptV} {a v : Int} (h : xs.findIdx? (sameK a v) = none) : dropK (sameK a v) xs = xs := by
  unfold dropK
  refine List.filter_eq_self.2 fun x hx => ?_
  rw [List.findIdx?_eq_none_iff.1 h x hx]
  rfl

theorem new_key {xs : List KeptV} (hk : Keys xs) {y : KeptV} (hy : okKey y) (h : xs.findIdx? (sameK y.a y.v) = none) : (y :: dropK (sameK y.a y.v) xs).Perm (xs ++ [y]) ∧ Keys (xs ++ [y]) := by
  refine ⟨by rw [none_drop h]; exact (List.perm_append_singleton y xs).symm, ?_, ?_⟩
  · rw [List.pairwise_append]
    refine ⟨hk.apart, by simp, fun x hx z hz => ?_⟩
    obtain rfl : z = y := by simpa using hz
    intro hc
    have := List.findIdx?_eq_none_iff.1 h x hx
    rw [sameK_iff.2 hc] at this
    cases this
  · intro x hx
    rcases List.mem_append.1 hx with hx | hx
    · exact hk.ok x hx
    · obtain rfl : x = y := by simpa using hx
      exact hy

theorem key_drop (xs : List KeptV) (a v : Int) : (xs.find? (sameK a v)).isSome = decide ((dropK (sameK a v) xs).length < xs.length) := by
  unfold dropK
  rw [Bool.eq_iff_iff, List.find?_isSome, decide_eq_true_iff, List.length_filter_lt_length_iff_exists]
  simp
theorem key_none {xs : List KeptV} {a v : Int} (h : xs.find? (sameK a v) = none) : xs.findIdx? (sameK a v) = none ∧ dropK (sameK a v) xs = xs := by
  have h1 : xs.findIdx? (sameK a v) = none := List.findIdx?_eq_none_iff.2 fun x hx => by simpa using List.find?_eq_none.1 h x hx
  exact ⟨h1, none_drop h1⟩
theorem key_some {xs : List KeptV} {a v : Int} {x : KeptV} (h : xs.find? (sameK a v) = some x) : ∃ i, xs.findIdx? (sameK a v) = some i ∧ i < xs.length := by
  cases hi : xs.findIdx? (sameK a v) with
  | none =>
    have := List.findIdx?_eq_none_iff.1 hi x (List.mem_of_find?_eq_some h)
    rw [List.find?_some h] at this
    cases this
  | some i => exact ⟨i, rfl, (List.findIdx?_eq_some_iff_getElem.1 hi).1⟩
end Go.Proofs.Ytmddflhacamnaaa
