/- A map of items to values of one cell, by the plain list of what it holds; over any program (layer 12's text NMap, for any values). -/
import Derived.Test.YtefiiooibbkffaaGreatEyRow
import Derived.Maps.OwnSet
import Derived.Maps.RangeWalk
namespace Go.Proofs.YtefiiooibbkffaaGreat
open Go.RowKit
open Go.Maps (Keyed)
set_option linter.unusedVariables false
set_option linter.unusedSectionVars false

/-- What a walk asks of the items' type. -/
structure KeyLaws (P : Program) (kt mt et : TypeId) (zv : Value) {K : Type} (kv : K → Value) (kl : K → Lit) (ok : K → Prop) : Prop where
  keyed : Keyed P kt
  und : P.underlying mt = some (.map kt et)
  key : ∀ x, ok x → keyOf P kt (kv x) = some (kl x)
  inj : ∀ x y, ok x → ok y → kl x = kl y → x = y
  zero : ∀ w, (zeroValue et).run P w = .ok zv w

def heldR (v : Value) : Option (DataW Value × List MemPlace) := some (.held v, [])

section
variable {K : Type}
def ent (kl : K → Lit) (n : K × Value) : Lit × DataW Value := (kl n.1, .held n.2)

/-- Block M is a map that leads from each of the items to its value. -/
structure MapV (P : Program) (kt : TypeId) (kl : K → Lit) (ok : K → Prop) (w : World) (M : Nat) (N : List (K × Value)) : Prop where
  ok : ∀ n, n ∈ N → ok n.1
  nd : (N.map (·.1)).Nodup
  own : ∃ L, w.ownsMap P kt heldR M N.length (.map L) ∧ L.Perm (N.map (ent kl))

variable [DecidableEq K] {P : Program} {kt mt et : TypeId} {zv : Value} {kv : K → Value} {kl : K → Lit} {ok : K → Prop} {w : World} {M : Nat} {N : List (K × Value)}

theorem tight {n : Nat} {L : List (Lit × DataW Value)} (h : w.ownsMap P kt heldR M n (.map L)) : w.ownsMap P kt heldR M L.length (.map L) := by
  obtain ⟨es, clock, hb, F, hs, hD⟩ := h
  refine ⟨es, clock, hb, F, ?_, hD⟩
  have := congrArg (fun d : DataW Value => match d with | .map l => l.length | _ => 0) hD
  simp only [length_sorted, List.length_map, Array.length_toList] at this
  omega
theorem MapV.perm {N' : List (K × Value)} (h : MapV P kt kl ok w M N) (hp : N.Perm N') : MapV P kt kl ok w M N' := by
  obtain ⟨L, ho, hl⟩ := h.own
  exact ⟨fun n hn => h.ok n (hp.mem_iff.2 hn), (hp.map _).nodup_iff.1 h.nd, L, by rw [← hp.length_eq]; exact ho, hl.trans (hp.map _)⟩
theorem MapV.lt (h : MapV P kt kl ok w M N) : M < w.heap.size := by
  obtain ⟨L, ho, _⟩ := h.own
  exact ho.lt
theorem MapV.isMap (h : MapV P kt kl ok w M N) : ∃ es clock, w.heap[M]? = some (.map es clock) := by
  obtain ⟨L, ⟨es, clock, hb, _⟩, _⟩ := h.own
  exact ⟨es, clock, hb⟩
theorem MapV.kept {w' : World} (h : MapV P kt kl ok w M N) (hb : w'.heap[M]? = w.heap[M]?) : MapV P kt kl ok w' M N := by
  obtain ⟨L, ⟨es, clock, h1, h2⟩, hl⟩ := h.own
  exact ⟨h.ok, h.nd, L, ⟨es, clock, hb.trans h1, h2⟩, hl⟩
theorem MapV.made (P : Program) (kt : TypeId) (kl : K → Lit) (ok : K → Prop) (w : World) : MapV P kt kl ok (w.alloc (.map #[] 0)) w.heap.size [] := ⟨by simp, by simp, [], World.ownsMap_made _ _ _ _, by simp⟩

theorem KeyLaws.isKey (KL : KeyLaws P kt mt et zv kv kl ok) {x : K} (hx : ok x) : WideAt.IsKeyLit (kl x) := KL.keyed.key (KL.key x hx)
theorem one_of {N : List (K × Value)} (hn : (N.map (·.1)).Nodup) {n m : K × Value} (h1 : n ∈ N) (h2 : m ∈ N) (e : n.1 = m.1) : n = m := by
  induction N with
  | nil => cases h1
  | cons y l ih =>
    rw [List.map_cons, List.nodup_cons] at hn
    rcases List.mem_cons.1 h1 with r1 | r1
    · rcases List.mem_cons.1 h2 with r2 | r2
      · rw [r1, r2]
      · exact absurd (List.mem_map.2 ⟨m, r2, by rw [← e, r1]⟩) hn.1
    · rcases List.mem_cons.1 h2 with r2 | r2
      · exact absurd (List.mem_map.2 ⟨n, r1, by rw [e, r2]⟩) hn.1
      · exact ih hn.2 r1 r2
theorem at_yes (h : MapV P kt kl ok w M N) (KL : KeyLaws P kt mt et zv kv kl ok) {L : List (Lit × DataW Value)} (hp : L.Perm (N.map (ent kl))) {x : K} {a : Value} (hm : (x, a) ∈ N) (z : DataW Value) :
    (DataW.map L).atKey (kl x) z = .held a := by
  have hx := h.ok _ hm
  unfold DataW.atKey
  simp only
  have hmem : ent kl (x, a) ∈ L := hp.mem_iff.2 (List.mem_map.2 ⟨_, hm, rfl⟩)
  cases hf : L.find? (fun p => p.1.sameKey (kl x)) with
  | none =>
    have := List.find?_eq_none.1 hf _ hmem
    simp only [ent] at this
    rw [WideAt.sameKey_self (KL.isKey hx)] at this
    simp at this
  | some p =>
    have h1 := List.find?_some hf
    have h2 := hp.mem_iff.1 (List.mem_of_find?_eq_some hf)
    obtain ⟨n, hn1, rfl⟩ := List.mem_map.1 h2
    have h3 := KL.inj _ _ (h.ok _ hn1) hx (WideAt.sameKey_eq h1)
    rw [one_of h.nd hn1 hm h3]
    rfl
theorem at_no (h : MapV P kt kl ok w M N) (KL : KeyLaws P kt mt et zv kv kl ok) {L : List (Lit × DataW Value)} (hp : L.Perm (N.map (ent kl))) {x : K} (hx : ok x) (hno : ∀ n, n ∈ N → n.1 ≠ x) (z : DataW Value) :
    (DataW.map L).atKey (kl x) z = z := by
  unfold DataW.atKey
  simp only
  cases hf : L.find? (fun p => p.1.sameKey (kl x)) with
  | none => rfl
  | some p =>
    have h1 := List.find?_some hf
    have h2 := hp.mem_iff.1 (List.mem_of_find?_eq_some hf)
    obtain ⟨n, hn1, rfl⟩ := List.mem_map.1 h2
    exact absurd (KL.inj _ _ (h.ok _ hn1) hx (WideAt.sameKey_eq h1)) (hno n hn1)
theorem has_iff (h : MapV P kt kl ok w M N) {L : List (Lit × DataW Value)} (hp : L.Perm (N.map (ent kl))) (KL : KeyLaws P kt mt et zv kv kl ok) {x : K} (hx : ok x) : Maps.has (DataW.map L) (kl x) = true ↔ ∃ n, n ∈ N ∧ n.1 = x := by
  show (L.any fun p => p.1.sameKey (kl x)) = true ↔ _
  rw [List.any_eq_true]
  constructor
  · rintro ⟨p, hpm, hs⟩
    obtain ⟨n, hn, rfl⟩ := List.mem_map.1 (hp.mem_iff.1 hpm)
    exact ⟨n, hn, KL.inj _ _ (h.ok _ hn) hx (WideAt.sameKey_eq hs)⟩
  · rintro ⟨n, hn, rfl⟩
    exact ⟨_, hp.mem_iff.2 (List.mem_map.2 ⟨n, hn, rfl⟩), WideAt.sameKey_self (KL.isKey hx)⟩
/-- What the map has for an item, by a plain list: the value, or what is none. -/
def lookV (N : List (K × Value)) (x : K) : Option Value := (N.find? fun n => decide (n.1 = x)).map (·.2)
theorem lookV_some {N : List (K × Value)} {x : K} {a : Value} (h : lookV N x = some a) : (x, a) ∈ N := by
  unfold lookV at h
  cases hf : N.find? fun n => decide (n.1 = x) with
  | none => rw [hf] at h; cases h
  | some n =>
    rw [hf] at h
    have h1 : n.1 = x := by simpa using List.find?_some hf
    have h2 := List.mem_of_find?_eq_some hf
    simp only [Option.map_some, Option.some.injEq] at h
    rw [← h1, ← h]
    exact h2
theorem lookV_none {N : List (K × Value)} {x : K} (h : lookV N x = none) : ∀ n, n ∈ N → n.1 ≠ x := by
  unfold lookV at h
  intro n hn e
  cases hf : N.find? fun n => decide (n.1 = x) with
  | some m => rw [hf] at h; cases h
  | none =>
    have := List.find?_eq_none.1 hf n hn
    simp [e] at this
theorem MapV.look (h : MapV P kt kl ok w M N) (KL : KeyLaws P kt mt et zv kv kl ok) {zd : DataW Value} {x : K} (hx : ok x) :
    (Instr.lookup mt (.map (some M)) (kv x) false).run P w = .ok ((lookV N x).getD zv) w := by
  obtain ⟨L, ho, hp⟩ := h.own
  obtain ⟨v, ps, hrun, hv⟩ := ho.lookup KL.keyed KL.und (KL.zero w) (zd := .held zv) (zp := []) rfl (KL.key x hx)
  cases e : lookV N x with
  | none =>
    rw [at_no h KL hp hx (lookV_none e)] at hv
    simp only [heldR, Option.some.injEq, Prod.mk.injEq, DataW.held.injEq] at hv
    rw [hrun, hv.1]
    rfl
  | some a =>
    rw [at_yes h KL hp (lookV_some e)] at hv
    simp only [heldR, Option.some.injEq, Prod.mk.injEq, DataW.held.injEq] at hv
    rw [hrun, hv.1]
    rfl
theorem MapV.look2 (h : MapV P kt kl ok w M N) (KL : KeyLaws P kt mt et zv kv kl ok) {x : K} (hx : ok x) :
    (Instr.lookup mt (.map (some M)) (kv x) true).run P w = .ok (.tuple #[(lookV N x).getD zv, .bool (lookV N x).isSome]) w := by
  obtain ⟨L, ho, hp⟩ := h.own
  obtain ⟨v, ps, hrun, hv⟩ := ho.look_ok KL.keyed KL.und (KL.zero w) (zd := .held zv) (zp := []) rfl (KL.key x hx)
  cases e : lookV N x with
  | none =>
    rw [at_no h KL hp hx (lookV_none e)] at hv
    simp only [heldR, Option.some.injEq, Prod.mk.injEq, DataW.held.injEq] at hv
    have h0 : Maps.has (DataW.map L) (kl x) = false := by
      cases hb : Maps.has (DataW.map L) (kl x) with
      | false => rfl
      | true => obtain ⟨n, h1, h2⟩ := (has_iff h hp KL hx).1 hb; exact absurd h2 (lookV_none e n h1)
    rw [hrun, hv.1, h0]
    rfl
  | some a =>
    rw [at_yes h KL hp (lookV_some e)] at hv
    simp only [heldR, Option.some.injEq, Prod.mk.injEq, DataW.held.injEq] at hv
    rw [hrun, hv.1, (has_iff h hp KL hx).2 ⟨_, lookV_some e, rfl⟩]
    rfl
/-- Without an item. -/
def dropV (N : List (K × Value)) (x : K) : List (K × Value) := N.filter fun n => decide (n.1 ≠ x)
theorem filter_not (h : MapV P kt kl ok w M N) (KL : KeyLaws P kt mt et zv kv kl ok) {x : K} (hx : ok x) : (N.map (ent kl)).filter (ChangeMaps.notKey (kl x)) = (dropV N x).map (ent kl) := by
  have h1 := h.ok
  clear h
  unfold dropV
  induction N with
  | nil => rfl
  | cons n N ih =>
    have ih := ih fun m hm => h1 m (by simp [hm])
    have e : ChangeMaps.notKey (kl x) (ent kl n) = decide (n.1 ≠ x) := by
      unfold ChangeMaps.notKey ent
      simp only
      by_cases e : n.1 = x
      · rw [e, WideAt.sameKey_self (KL.isKey hx)]
        simp
      · cases hs : (kl n.1).sameKey (kl x) with
        | false => simp [e]
        | true => exact absurd (KL.inj _ _ (h1 n (by simp)) hx (WideAt.sameKey_eq hs)) e
    rw [List.map_cons, List.filter_cons, List.filter_cons, e]
    by_cases e2 : n.1 = x
    · simp only [e2, ne_eq, not_true_eq_false, decide_false, Bool.false_eq_true, if_false]
      exact ih
    · simp only [ne_eq, e2, not_false_eq_true, decide_true, if_true, List.map_cons]
      rw [ih]
theorem dropV_nd {N : List (K × Value)} (h : (N.map (·.1)).Nodup) (x : K) : ((dropV N x).map (·.1)).Nodup := h.sublist ((List.filter_sublist).map _)
theorem MapV.put (h : MapV P kt kl ok w M N) (KL : KeyLaws P kt mt et zv kv kl ok) (hl : N.length < maxLen) {x : K} (a : Value) (hx : ok x) :
    ∃ w', (Instr.mapUpdate mt (.map (some M)) (kv x) a).run P w = .ok () w' ∧ MapV P kt kl ok w' M ((x, a) :: dropV N x) ∧ w.mapTurned w' M := by
  obtain ⟨L, ho, hp⟩ := h.own
  obtain ⟨w', hrun, ho', ht⟩ := ho.store KL.keyed KL.und hl (val := a) (KL.key x hx) rfl
  rw [DataW.put_eq] at ho'
  have hperm : (ChangeMaps.putKey (kl x) (.held a) L).Perm (((x, a) :: dropV N x).map (ent kl)) := by
    unfold ChangeMaps.putKey
    refine (Go.WideShapes.insert_perm _ _).trans ?_
    rw [List.map_cons, ← filter_not h KL hx]
    exact (hp.filter _).cons _
  refine ⟨w', hrun, ⟨fun n hn => ?_, ?_, _, ?_, hperm⟩, ht⟩
  · rcases List.mem_cons.1 hn with rfl | hn
    · exact hx
    · exact h.ok n ((List.mem_filter.1 hn).1)
  · rw [List.map_cons, List.nodup_cons]
    refine ⟨fun hm => ?_, dropV_nd h.nd x⟩
    obtain ⟨n, hn, e⟩ := List.mem_map.1 hm
    exact of_decide_eq_true (List.mem_filter.1 hn).2 e
  · have := tight ho'
    rw [hperm.length_eq, List.length_map] at this
    exact this
theorem MapV.del (h : MapV P kt kl ok w M N) (KL : KeyLaws P kt mt et zv kv kl ok) {x : K} (hx : ok x) (ty : TypeId) :
    ∃ w', (Builtin.delete_ #[mt, kt] ty #[.map (some M), kv x]).run P w = .ok (.tuple #[]) w' ∧ MapV P kt kl ok w' M (dropV N x) ∧ w.mapTurned w' M := by
  obtain ⟨L, ho, hp⟩ := h.own
  obtain ⟨w', hrun, ho', ht⟩ := ho.drop KL.keyed KL.und (KL.key x hx) ty
  rw [DataW.del_eq] at ho'
  unfold ChangeMaps.delKey at ho'
  have hperm : (L.filter (ChangeMaps.notKey (kl x))).Perm ((dropV N x).map (ent kl)) := by
    rw [← filter_not h KL hx]
    exact hp.filter _
  refine ⟨w', hrun, ⟨fun n hn => h.ok n ((List.mem_filter.1 hn).1), dropV_nd h.nd x, _, ?_, hperm⟩, ht⟩
  have := tight ho'
  rw [hperm.length_eq, List.length_map] at this
  exact this
theorem MapV.len (h : MapV P kt kl ok w M N) (KL : KeyLaws P kt mt et zv kv kl ok) (ty : TypeId) : (Builtin.len_ #[mt] ty #[.map (some M)]).run P w = .ok (.int .i64 (N.length : Int)) w := by
  obtain ⟨L, ho, hp⟩ := h.own
  rw [ho.len KL.und ty]
  have : Maps.size (DataW.map L) = N.length := by
    show L.length = N.length
    rw [hp.length_eq, List.length_map]
  rw [this]
/-- At the operation: 'm[k] = v'. -/
theorem wpList_put {ops : Array Oper} {rest : List Oper} {o : Oper} {a : Act} {Q : Exit → Act → World → Prop} (KL : KeyLaws P kt mt et zv kv kl ok)
    (hg : o.guard = none) (m x v : Operand) (hop : o.op = Op.mapUpdate mt m x v) (hm : a.eval m = .map (some M)) (h : MapV P kt kl ok w M N) (hl : N.length < maxLen) (y : K) (p : Value) (hx : a.eval x = kv y) (hv : a.eval v = p)
    (hy : ok y) (hK : ∀ w', MapV P kt kl ok w' M ((y, p) :: dropV N y) → w.mapTurned w' M → wpList P ops Q rest (a.put o.dst undef) w') :
    wpList P ops Q (o :: rest) a w := by
  refine wpList_plain hg fun K' hK' => ?_
  obtain ⟨w', hrun, r1, r2⟩ := h.put KL hl p hy
  unfold Oper.wp
  simp [execOp, hop, hm, hx, hv, hrun, Result.andThen]
  exact hK' _ _ (hK w' r1 r2)
end
end Go.Proofs.YtefiiooibbkffaaGreat
