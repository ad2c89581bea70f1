/- A map from numbers to whatever, by what it holds; over the numbers' type alone. -/
import Derived.Test.YtefcefclncbimaaZRow
import Derived.Maps.OwnSet
import Derived.Maps.RangeWalk
namespace Go.Proofs.Ytefcefclncbimaa
open Go.RowKit
open Go.Maps (Keyed)
set_option linter.unusedVariables false

/-- What a walk asks of the map's type. -/
structure VLaws (mt et : TypeId) (z : Value) : Prop where
  und : Try.prog.underlying mt = some (.map 3 et)
  zero : ∀ w, (zeroValue et).run Try.prog w = .ok z w

def heldR (v : Value) : Option (DataW Value × List MemPlace) := some (.held v, [])
theorem int_kd : Keyed Try.prog 3 := Maps.int_keyed Try.underlying3
theorem int_wf {x : Int} (h : okI x) : (Lit.int .i64 x).wf = true := by
  have h1 := h.1
  have h2 := h.2
  simp [Lit.wf, IntKind.min, IntKind.max, IntKind.signed, IntKind.bits]
  omega
theorem int_key {x : Int} (h : okI x) : keyOf Try.prog 3 (.int .i64 x) = some (.int .i64 x) := Maps.keyOf_int_mk Try.underlying3 (int_wf h)
theorem int_lit {x : Int} (h : okI x) : WideAt.IsKeyLit (.int .i64 x) := int_kd.key (int_key h)
theorem same_int {x y : Int} (h : (Lit.int .i64 x).sameKey (.int .i64 y) = true) : x = y := by
  have := WideAt.sameKey_eq h
  simpa using this

section
variable {V : Type}
def entV (enc : V → Value) (n : Int × V) : Lit × DataW Value := (.int .i64 n.1, .held (enc n.2))
/-- Block M is a map that leads from each of the numbers to what stands beside it. -/
def MapV (enc : V → Value) (w : World) (M : Nat) (N : List (Int × V)) : Prop :=
  ∃ L, w.ownsMap Try.prog 3 heldR M N.length (.map L) ∧ L.Perm (N.map (entV enc))
def delK (N : List (Int × V)) (x : Int) : List (Int × V) := N.filter fun n => decide (n.1 ≠ x)

variable {enc : V → Value} {mt et : TypeId} {z : Value} {w w' : World} {M : Nat} {N : List (Int × V)} {x : Int} {a : V}

theorem tightV {n : Nat} {L : List (Lit × DataW Value)} (h : w.ownsMap Try.prog 3 heldR M n (.map L)) : w.ownsMap Try.prog 3 heldR M L.length (.map L) := by
  obtain ⟨es, clock, hb, F, hs, hD⟩ := h
  refine ⟨es, clock, hb, F, ?_, hD⟩
  have := congrArg (fun d : DataW Value => match d with | .map l => l.length | _ => 0) hD
  simp only [length_sorted, List.length_map, Array.length_toList] at this
  omega
theorem MapV.perm {N' : List (Int × V)} (h : MapV enc w M N) (hp : N.Perm N') : MapV enc w M N' := by
  obtain ⟨L, ho, hl⟩ := h
  exact ⟨L, by rw [← hp.length_eq]; exact ho, hl.trans (hp.map _)⟩
theorem MapV.lt (h : MapV enc w M N) : M < w.heap.size := by
  obtain ⟨L, ho, _⟩ := h
  exact ho.lt
theorem MapV.isMap (h : MapV enc w M N) : ∃ es clock, w.heap[M]? = some (.map es clock) := by
  obtain ⟨L, ⟨es, clock, hb, _⟩, _⟩ := h
  exact ⟨es, clock, hb⟩
theorem MapV.ne (h : MapV enc w M N) {b : Nat} {cs : Array Value} {t : TypeId} {fr : Nat × Nat} (hb : w.heap[b]? = some (.cells cs t fr)) : M ≠ b := fun e => by
  obtain ⟨es, clock, hm⟩ := h.isMap
  rw [e, hb] at hm
  cases hm
theorem MapV.kept (h : MapV enc w M N) (hb : w'.heap[M]? = w.heap[M]?) : MapV enc w' M N := by
  obtain ⟨L, ⟨es, clock, h1, h2⟩, hl⟩ := h
  exact ⟨L, ⟨es, clock, hb.trans h1, h2⟩, hl⟩
theorem MapV.grow (h : MapV enc w M N) (g : w.grownBy w' none) : MapV enc w' M N := h.kept (g.block M h.lt (by simp))
theorem MapV.made (enc : V → Value) (w : World) : MapV enc (w.alloc (.map #[] 0)) w.heap.size [] := ⟨[], World.ownsMap_made _ _ _ _, by simp⟩
theorem key_one {n m : Int × V} (hn : (N.map (·.1)).Nodup) (h1 : n ∈ N) (h2 : m ∈ N) (e : n.1 = m.1) : n = m := by
  induction N with
  | nil => cases h1
  | cons y l ih =>
    rw [List.map_cons, List.nodup_cons] at hn
    rcases List.mem_cons.1 h1 with r1 | r1
    · rcases List.mem_cons.1 h2 with r2 | r2
      · rw [r1, r2]
      · exact absurd (List.mem_map.2 ⟨m, r2, by rw [← e, r1]⟩) hn.1
    · rcases List.mem_cons.1 h2 with r2 | r2
      · exact absurd (List.mem_map.2 ⟨n, r1, by rw [e, r2]⟩) hn.1
      · exact ih hn.2 r1 r2
theorem atV_yes {L : List (Lit × DataW Value)} (hp : L.Perm (N.map (entV enc))) (hn : (N.map (·.1)).Nodup) (hm : (x, a) ∈ N) (hx : okI x) (z : DataW Value) : (DataW.map L).atKey (.int .i64 x) z = .held (enc a) := by
  unfold DataW.atKey
  simp only
  have hmem : entV enc (x, a) ∈ L := hp.mem_iff.2 (List.mem_map.2 ⟨_, hm, rfl⟩)
  cases hf : L.find? (fun p => p.1.sameKey (.int .i64 x)) with
  | none =>
    have := List.find?_eq_none.1 hf _ hmem
    simp only [entV] at this
    rw [WideAt.sameKey_self (int_lit hx)] at this
    simp at this
  | some p =>
    have h1 := List.find?_some hf
    have h2 := hp.mem_iff.1 (List.mem_of_find?_eq_some hf)
    obtain ⟨n, hn1, rfl⟩ := List.mem_map.1 h2
    have h3 := same_int h1
    rw [key_one hn hn1 hm h3]
    rfl
theorem atV_no {L : List (Lit × DataW Value)} (hp : L.Perm (N.map (entV enc))) (hno : ∀ n, n ∈ N → n.1 ≠ x) (z : DataW Value) : (DataW.map L).atKey (.int .i64 x) z = z := by
  unfold DataW.atKey
  simp only
  cases hf : L.find? (fun p => p.1.sameKey (.int .i64 x)) with
  | none => rfl
  | some p =>
    have h1 := List.find?_some hf
    have h2 := hp.mem_iff.1 (List.mem_of_find?_eq_some hf)
    obtain ⟨n, hn1, rfl⟩ := List.mem_map.1 h2
    exact absurd (same_int h1) (hno n hn1)
theorem hasV_iff {L : List (Lit × DataW Value)} (hp : L.Perm (N.map (entV enc))) (hx : okI x) : Maps.has (DataW.map L) (.int .i64 x) = true ↔ ∃ n, n ∈ N ∧ n.1 = x := by
  show (L.any fun p => p.1.sameKey (.int .i64 x)) = true ↔ _
  rw [List.any_eq_true]
  constructor
  · rintro ⟨p, hpm, hs⟩
    obtain ⟨n, hn, rfl⟩ := List.mem_map.1 (hp.mem_iff.1 hpm)
    exact ⟨n, hn, same_int hs⟩
  · rintro ⟨n, hn, rfl⟩
    exact ⟨_, hp.mem_iff.2 (List.mem_map.2 ⟨n, hn, rfl⟩), WideAt.sameKey_self (int_lit hx)⟩
theorem MapV.look_yes (h : MapV enc w M N) (KL : VLaws mt et z) (hn : (N.map (·.1)).Nodup) (hm : (x, a) ∈ N) (hx : okI x) : (Instr.lookup mt (.map (some M)) (.int .i64 x) false).run Try.prog w = .ok (enc a) w := by
  obtain ⟨L, ho, hp⟩ := h
  obtain ⟨v, ps, hrun, hv⟩ := ho.lookup int_kd KL.und (KL.zero w) (zd := .held z) (zp := []) rfl (int_key hx)
  rw [atV_yes hp hn hm hx] at hv
  simp only [heldR, Option.some.injEq, Prod.mk.injEq, DataW.held.injEq] at hv
  rw [hrun, hv.1]
theorem MapV.look_no (h : MapV enc w M N) (KL : VLaws mt et z) (hno : ∀ n, n ∈ N → n.1 ≠ x) (hx : okI x) : (Instr.lookup mt (.map (some M)) (.int .i64 x) false).run Try.prog w = .ok z w := by
  obtain ⟨L, ho, hp⟩ := h
  obtain ⟨v, ps, hrun, hv⟩ := ho.lookup int_kd KL.und (KL.zero w) (zd := .held z) (zp := []) rfl (int_key hx)
  rw [atV_no hp hno] at hv
  simp only [heldR, Option.some.injEq, Prod.mk.injEq, DataW.held.injEq] at hv
  rw [hrun, hv.1]
/-- 'v, ok := m[k]'. -/
theorem MapV.ok_yes (h : MapV enc w M N) (KL : VLaws mt et z) (hn : (N.map (·.1)).Nodup) (hm : (x, a) ∈ N) (hx : okI x) : (Instr.lookup mt (.map (some M)) (.int .i64 x) true).run Try.prog w = .ok (.tuple #[enc a, .bool true]) w := by
  obtain ⟨L, ho, hp⟩ := h
  obtain ⟨v, ps, hrun, hv⟩ := ho.look_ok int_kd KL.und (KL.zero w) (zd := .held z) (zp := []) rfl (int_key hx)
  rw [atV_yes hp hn hm hx] at hv
  simp only [heldR, Option.some.injEq, Prod.mk.injEq, DataW.held.injEq] at hv
  rw [hrun, hv.1, (hasV_iff hp hx).2 ⟨_, hm, rfl⟩]
theorem MapV.ok_no (h : MapV enc w M N) (KL : VLaws mt et z) (hno : ∀ n, n ∈ N → n.1 ≠ x) (hx : okI x) : (Instr.lookup mt (.map (some M)) (.int .i64 x) true).run Try.prog w = .ok (.tuple #[z, .bool false]) w := by
  obtain ⟨L, ho, hp⟩ := h
  obtain ⟨v, ps, hrun, hv⟩ := ho.look_ok int_kd KL.und (KL.zero w) (zd := .held z) (zp := []) rfl (int_key hx)
  rw [atV_no hp hno] at hv
  simp only [heldR, Option.some.injEq, Prod.mk.injEq, DataW.held.injEq] at hv
  have h0 : Maps.has (DataW.map L) (.int .i64 x) = false := by
    cases hb : Maps.has (DataW.map L) (.int .i64 x) with
    | false => rfl
    | true => obtain ⟨n, h1, h2⟩ := (hasV_iff hp hx).1 hb; exact absurd h2 (hno n h1)
  rw [hrun, hv.1, h0]
theorem MapV.len (h : MapV enc w M N) (KL : VLaws mt et z) (ty : TypeId) : (Builtin.len_ #[mt] ty #[.map (some M)]).run Try.prog w = .ok (.int .i64 (N.length : Int)) w := by
  obtain ⟨L, ho, hp⟩ := h
  rw [ho.len KL.und ty]
  have : Maps.size (DataW.map L) = N.length := by
    show L.length = N.length
    rw [hp.length_eq, List.length_map]
  rw [this]
theorem filterV {L : List (Lit × DataW Value)} (hp : L.Perm (N.map (entV enc))) (hx : okI x) : (L.filter (ChangeMaps.notKey (.int .i64 x))).Perm ((delK N x).map (entV enc)) := by
  refine (hp.filter _).trans ?_
  rw [List.filter_map]
  have e : N.filter (ChangeMaps.notKey (.int .i64 x) ∘ entV enc) = delK N x := by
    unfold delK
    refine List.filter_congr fun n _ => ?_
    show ChangeMaps.notKey (.int .i64 x) (entV enc n) = _
    unfold ChangeMaps.notKey entV
    simp only
    by_cases e : n.1 = x
    · rw [e, WideAt.sameKey_self (int_lit hx)]; simp
    · cases hs : (Lit.int .i64 n.1).sameKey (.int .i64 x) with
      | false => simp [e]
      | true => exact absurd (same_int hs) e
  rw [e]
theorem MapV.put (h : MapV enc w M N) (KL : VLaws mt et z) (hl : N.length < 1000000) (a : V) (hx : okI x) : ∃ w', (Instr.mapUpdate mt (.map (some M)) (.int .i64 x) (enc a)).run Try.prog w = .ok () w' ∧ MapV enc w' M ((x, a) :: delK N x) ∧ w.grownBy w' (some M) := by
  obtain ⟨L, ho, hp⟩ := h
  obtain ⟨w', hrun, ho', ht⟩ := ho.store int_kd KL.und (by unfold maxLen; omega) (val := enc a) (int_key hx) rfl
  rw [DataW.put_eq] at ho'
  have hp2 : (ChangeMaps.putKey (.int .i64 x) (DataW.held (enc a)) L).Perm (((x, a) :: delK N x).map (entV enc)) := by
    unfold ChangeMaps.putKey
    exact (Go.WideShapes.insert_perm _ _).trans ((filterV hp hx).cons _)
  refine ⟨w', hrun, ⟨_, ?_, hp2⟩, ht.grown⟩
  have := tightV ho'
  rw [hp2.length_eq, List.length_map] at this
  exact this
theorem MapV.del (h : MapV enc w M N) (KL : VLaws mt et z) (hx : okI x) (ty : TypeId) : ∃ w', (Builtin.delete_ #[mt, 3] ty #[.map (some M), .int .i64 x]).run Try.prog w = .ok (.tuple #[]) w' ∧ MapV enc w' M (delK N x) ∧ w.grownBy w' (some M) := by
  obtain ⟨L, ho, hp⟩ := h
  obtain ⟨w', hrun, ho', ht⟩ := ho.drop int_kd KL.und (int_key hx) ty
  rw [DataW.del_eq] at ho'
  have hp2 : (ChangeMaps.delKey (.int .i64 x) L).Perm ((delK N x).map (entV enc)) := by
    unfold ChangeMaps.delKey
    exact filterV hp hx
  refine ⟨w', hrun, ⟨_, ?_, hp2⟩, ht.grown⟩
  have := tightV ho'
  rw [hp2.length_eq, List.length_map] at this
  exact this
theorem delK_none (h : ∀ n, n ∈ N → n.1 ≠ x) : delK N x = N := List.filter_eq_self.2 fun n hn => by simpa using h n hn
/-- At the operation: 'm[k] = v'. -/
theorem wpList_putV {ops : Array Oper} {rest : List Oper} {o : Oper} {ac : Act} {Q : Exit → Act → World → Prop} (KL : VLaws mt et z)
    (hg : o.guard = none) (m k v : Operand) (hop : o.op = Op.mapUpdate mt m k v) (hm : ac.eval m = .map (some M)) (h : MapV enc w M N) (hl : N.length < 1000000) (y : Int) (b : V) (hx : ac.eval k = .int .i64 y) (hv : ac.eval v = enc b)
    (hy : okI y) (hK : ∀ w', MapV enc w' M ((y, b) :: delK N y) → w.grownBy w' (some M) → wpList Try.prog ops Q rest (ac.put o.dst undef) w') :
    wpList Try.prog ops Q (o :: rest) ac w := by
  refine wpList_plain hg fun K' hK' => ?_
  obtain ⟨w', hrun, r1, r2⟩ := h.put KL hl b hy
  unfold Oper.wp
  simp [execOp, hop, hm, hx, hv, hrun, Result.andThen]
  exact hK' _ _ (hK w' r1 r2)
end
end Go.Proofs.Ytefcefclncbimaa
