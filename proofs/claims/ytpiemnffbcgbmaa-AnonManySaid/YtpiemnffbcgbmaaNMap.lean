/- A map of items to blocks, by what it holds; over any program. -/
import Derived.Test.YtpiemnffbcgbmaaZRow
import Derived.Maps.OwnSet
import Derived.Maps.RangeWalk
namespace Go.Proofs.Ytpiemnffbcgbmaa
open Go.RowKit
open Go.Maps (Keyed)
set_option linter.unusedVariables false

/-- What a walk asks of the items' type. -/
structure KeyLaws (P : Program) (kt mt et : TypeId) {K : Type} (kv : K → Value) (kl : K → Lit) (ok : K → Prop) : Prop where
  keyed : Keyed P kt
  und : P.underlying mt = some (.map kt et)
  key : ∀ x, ok x → keyOf P kt (kv x) = some (kl x)
  inj : ∀ x y, kl x = kl y → x = y
  zero : ∀ w, (zeroValue et).run P w = .ok (.pointer none) w

def heldR (v : Value) : Option (DataW Value × List MemPlace) := some (.held v, [])

section
variable {K : Type}
def ent (kl : K → Lit) (n : K × Nat) : Lit × DataW Value := (kl n.1, .held (.pointer (some ⟨n.2, 0, none⟩)))

/-- Block M is a map that leads from each of the items to its place. -/
def MapOf (P : Program) (kt : TypeId) (kl : K → Lit) (w : World) (M : Nat) (N : List (K × Nat)) : Prop :=
  ∃ L, w.ownsMap P kt heldR M N.length (.map L) ∧ L.Perm (N.map (ent kl))

variable {P : Program} {kt mt et : TypeId} {kv : K → Value} {kl : K → Lit} {ok : K → Prop} {w : World} {M : Nat} {N : List (K × Nat)}

theorem tight {n : Nat} {L : List (Lit × DataW Value)} (h : w.ownsMap P kt heldR M n (.map L)) : w.ownsMap P kt heldR M L.length (.map L) := by
  obtain ⟨es, clock, hb, F, hs, hD⟩ := h
  refine ⟨es, clock, hb, F, ?_, hD⟩
  have := congrArg (fun d : DataW Value => match d with | .map l => l.length | _ => 0) hD
  simp only [length_sorted, List.length_map, Array.length_toList] at this
  omega

theorem MapOf.perm {N' : List (K × Nat)} (h : MapOf P kt kl w M N) (hp : N.Perm N') : MapOf P kt kl w M N' := by
  obtain ⟨L, ho, hl⟩ := h
  exact ⟨L, by rw [← hp.length_eq]; exact ho, hl.trans (hp.map _)⟩

theorem MapOf.lt (h : MapOf P kt kl w M N) : M < w.heap.size := by
  obtain ⟨L, ho, _⟩ := h
  exact ho.lt

theorem MapOf.isMap (h : MapOf P kt kl w M N) : ∃ es clock, w.heap[M]? = some (.map es clock) := by
  obtain ⟨L, ⟨es, clock, hb, _⟩, _⟩ := h
  exact ⟨es, clock, hb⟩

theorem MapOf.kept {w' : World} (h : MapOf P kt kl w M N) (hb : w'.heap[M]? = w.heap[M]?) : MapOf P kt kl w' M N := by
  obtain ⟨L, ⟨es, clock, h1, h2⟩, hl⟩ := h
  exact ⟨L, ⟨es, clock, hb.trans h1, h2⟩, hl⟩

theorem MapOf.made (P : Program) (kt : TypeId) (kl : K → Lit) (w : World) : MapOf P kt kl (w.alloc (.map #[] 0)) w.heap.size [] := ⟨[], World.ownsMap_made _ _ _ _, by simp⟩

theorem KeyLaws.isKey (KL : KeyLaws P kt mt et kv kl ok) {x : K} (hx : ok x) : WideAt.IsKeyLit (kl x) := KL.keyed.key (KL.key x hx)

theorem at_yes (KL : KeyLaws P kt mt et kv kl ok) {L : List (Lit × DataW Value)} (hp : L.Perm (N.map (ent kl))) (hn : (N.map (·.1)).Nodup) {x : K} {a : Nat} (hm : (x, a) ∈ N) (hx : ok x) (z : DataW Value) :
    (DataW.map L).atKey (kl x) z = .held (.pointer (some ⟨a, 0, none⟩)) := by
  unfold DataW.atKey
  simp only
  have hmem : ent kl (x, a) ∈ L := hp.mem_iff.2 (List.mem_map.2 ⟨_, hm, rfl⟩)
  cases hf : L.find? (fun p => p.1.sameKey (kl x)) with
  | none =>
    have := List.find?_eq_none.1 hf _ hmem
    simp only [ent] at this
    rw [WideAt.sameKey_self (KL.isKey hx)] at this
    simp at this
  | some p =>
    have h1 := List.find?_some hf
    have h2 := hp.mem_iff.1 (List.mem_of_find?_eq_some hf)
    obtain ⟨n, hn1, rfl⟩ := List.mem_map.1 h2
    have h3 := KL.inj _ _ (WideAt.sameKey_eq h1)
    have h4 : n = (x, a) := by
      have hpw := List.pairwise_map.1 hn
      by_cases e : n = (x, a)
      · exact e
      · exfalso
        have : ∀ l : List (K × Nat), l.Pairwise (fun p q => p.1 ≠ q.1) → n ∈ l → (x, a) ∈ l → False := by
          intro l hl
          induction l with
          | nil => simp
          | cons y l ih =>
            obtain ⟨k1, k2⟩ := List.pairwise_cons.1 hl
            intro m1 m2
            rcases List.mem_cons.1 m1 with r1 | r1
            · rcases List.mem_cons.1 m2 with r2 | r2
              · exact e (r1.trans r2.symm)
              · exact k1 _ r2 (by rw [← r1]; exact h3)
            · rcases List.mem_cons.1 m2 with r2 | r2
              · exact k1 _ r1 (by rw [← r2]; exact h3.symm)
              · exact ih k2 r1 r2
        exact this N hpw hn1 hm
    rw [h4]
    rfl

theorem at_no (KL : KeyLaws P kt mt et kv kl ok) {L : List (Lit × DataW Value)} (hp : L.Perm (N.map (ent kl))) {x : K} (hno : ∀ n, n ∈ N → n.1 ≠ x) (z : DataW Value) :
    (DataW.map L).atKey (kl x) z = z := by
  unfold DataW.atKey
  simp only
  cases hf : L.find? (fun p => p.1.sameKey (kl x)) with
  | none => rfl
  | some p =>
    have h1 := List.find?_some hf
    have h2 := hp.mem_iff.1 (List.mem_of_find?_eq_some hf)
    obtain ⟨n, hn1, rfl⟩ := List.mem_map.1 h2
    exact absurd (KL.inj _ _ (WideAt.sameKey_eq h1)) (hno n hn1)

theorem MapOf.look_yes (h : MapOf P kt kl w M N) (KL : KeyLaws P kt mt et kv kl ok) (hn : (N.map (·.1)).Nodup) {x : K} {a : Nat} (hm : (x, a) ∈ N) (hx : ok x) :
    (Instr.lookup mt (.map (some M)) (kv x) false).run P w = .ok (.pointer (some ⟨a, 0, none⟩)) w := by
  obtain ⟨L, ho, hp⟩ := h
  obtain ⟨v, ps, hrun, hv⟩ := ho.lookup KL.keyed KL.und (KL.zero w) (zd := .held (.pointer none)) (zp := []) rfl (KL.key x hx)
  rw [at_yes KL hp hn hm hx] at hv
  simp only [heldR, Option.some.injEq, Prod.mk.injEq, DataW.held.injEq] at hv
  rw [hrun, hv.1]

theorem MapOf.look_no (h : MapOf P kt kl w M N) (KL : KeyLaws P kt mt et kv kl ok) {x : K} (hno : ∀ n, n ∈ N → n.1 ≠ x) (hx : ok x) :
    (Instr.lookup mt (.map (some M)) (kv x) false).run P w = .ok (.pointer none) w := by
  obtain ⟨L, ho, hp⟩ := h
  obtain ⟨v, ps, hrun, hv⟩ := ho.lookup KL.keyed KL.und (KL.zero w) (zd := .held (.pointer none)) (zp := []) rfl (KL.key x hx)
  rw [at_no KL hp hno] at hv
  simp only [heldR, Option.some.injEq, Prod.mk.injEq, DataW.held.injEq] at hv
  rw [hrun, hv.1]

theorem MapOf.put (h : MapOf P kt kl w M N) (KL : KeyLaws P kt mt et kv kl ok) (hl : N.length < maxLen) {x : K} (a : Nat) (hno : ∀ n, n ∈ N → n.1 ≠ x) (hx : ok x) :
    ∃ w', (Instr.mapUpdate mt (.map (some M)) (kv x) (.pointer (some ⟨a, 0, none⟩))).run P w = .ok () w' ∧ MapOf P kt kl w' M ((x, a) :: N) ∧ w.mapTurned w' M := by
  obtain ⟨L, ho, hp⟩ := h
  obtain ⟨w', hrun, ho', ht⟩ := ho.store KL.keyed KL.und hl (val := .pointer (some ⟨a, 0, none⟩)) (KL.key x hx) rfl
  rw [DataW.put_eq] at ho'
  refine ⟨w', hrun, ⟨_, ho', ?_⟩, ht⟩
  unfold ChangeMaps.putKey
  refine (Go.WideShapes.insert_perm _ _).trans ?_
  have e : L.filter (ChangeMaps.notKey (kl x)) = L := by
    refine List.filter_eq_self.2 fun p hpm => ?_
    obtain ⟨n, hn1, rfl⟩ := List.mem_map.1 (hp.mem_iff.1 hpm)
    unfold ChangeMaps.notKey
    cases hs : (ent kl n).1.sameKey (kl x) with
    | false => rfl
    | true => exact absurd (KL.inj _ _ (WideAt.sameKey_eq hs)) (hno n hn1)
  rw [e]
  exact hp.cons _

theorem MapOf.del {N1 N2 : List (K × Nat)} {x : K} {a : Nat} (h : MapOf P kt kl w M (N1 ++ (x, a) :: N2)) (KL : KeyLaws P kt mt et kv kl ok) (hn : ((N1 ++ (x, a) :: N2).map (·.1)).Nodup) (hx : ok x) (ty : TypeId) :
    ∃ w', (Builtin.delete_ #[mt, kt] ty #[.map (some M), kv x]).run P w = .ok (.tuple #[]) w' ∧ MapOf P kt kl w' M (N1 ++ N2) ∧ w.mapTurned w' M := by
  obtain ⟨L, ho, hp⟩ := h
  obtain ⟨w', hrun, ho', ht⟩ := ho.drop KL.keyed KL.und (KL.key x hx) ty
  rw [DataW.del_eq] at ho'
  unfold ChangeMaps.delKey at ho'
  have hperm : (L.filter (ChangeMaps.notKey (kl x))).Perm ((N1 ++ N2).map (ent kl)) := by
    refine (hp.filter _).trans ?_
    have e : ((N1 ++ (x, a) :: N2).map (ent kl)).filter (ChangeMaps.notKey (kl x)) = (N1 ++ N2).map (ent kl) := by
      have hno : ∀ n, n ∈ N1 ++ N2 → ChangeMaps.notKey (kl x) (ent kl n) = true := by
        intro n hn1
        unfold ChangeMaps.notKey
        cases hs : (ent kl n).1.sameKey (kl x) with
        | false => rfl
        | true =>
          exfalso
          have e := KL.inj _ _ (WideAt.sameKey_eq hs)
          simp only [List.map_append, List.map_cons] at hn
          have k1 := List.nodup_append.1 hn
          rcases List.mem_append.1 hn1 with q | q
          · exact k1.2.2 n.1 (List.mem_map.2 ⟨n, q, rfl⟩) x (by simp) e
          · exact (List.nodup_cons.1 k1.2.1).1 (e ▸ List.mem_map.2 ⟨n, q, rfl⟩)
      have hself : ChangeMaps.notKey (kl x) (ent kl (x, a)) = false := by
        unfold ChangeMaps.notKey
        simp only [ent]
        rw [WideAt.sameKey_self (KL.isKey hx)]
        rfl
      rw [List.map_append, List.map_cons, List.filter_append, List.filter_cons, hself]
      simp only [Bool.false_eq_true, if_false]
      rw [List.map_append]
      congr 1
      · exact List.filter_eq_self.2 fun p hp => by obtain ⟨n, q, rfl⟩ := List.mem_map.1 hp; exact hno n (List.mem_append_left _ q)
      · exact List.filter_eq_self.2 fun p hp => by obtain ⟨n, q, rfl⟩ := List.mem_map.1 hp; exact hno n (List.mem_append_right _ q)
    rw [e]
  refine ⟨w', hrun, ⟨_, ?_, hperm⟩, ht⟩
  have := tight ho'
  rw [hperm.length_eq, List.length_map] at this
  exact this

/-- At the operation: 'm[k] = v'. -/
theorem wpList_put {ops : Array Oper} {rest : List Oper} {o : Oper} {a : Act} {Q : Exit → Act → World → Prop} (KL : KeyLaws P kt mt et kv kl ok)
    (hg : o.guard = none) (m x v : Operand) (hop : o.op = Op.mapUpdate mt m x v) (hm : a.eval m = .map (some M)) (h : MapOf P kt kl w M N) (hl : N.length < maxLen) (y : K) (p : Nat) (hx : a.eval x = kv y) (hv : a.eval v = .pointer (some ⟨p, 0, none⟩))
    (hno : ∀ n, n ∈ N → n.1 ≠ y) (hy : ok y) (hK : ∀ w', MapOf P kt kl w' M ((y, p) :: N) → w.mapTurned w' M → wpList P ops Q rest (a.put o.dst undef) w') :
    wpList P ops Q (o :: rest) a w := by
  refine wpList_plain hg fun K' hK' => ?_
  obtain ⟨w', hrun, r1, r2⟩ := h.put KL hl p hno hy
  unfold Oper.wp
  simp [execOp, hop, hm, hx, hv, hrun, Result.andThen]
  exact hK' _ _ (hK w' r1 r2)


theorem has_iff {L : List (Lit × DataW Value)} (hp : L.Perm (N.map (ent kl))) (KL : KeyLaws P kt mt et kv kl ok) {x : K} (hx : ok x) : Maps.has (DataW.map L) (kl x) = true ↔ ∃ n, n ∈ N ∧ n.1 = x := by
  show (L.any fun p => p.1.sameKey (kl x)) = true ↔ _
  rw [List.any_eq_true]
  constructor
  · rintro ⟨p, hpm, hs⟩
    obtain ⟨n, hn, rfl⟩ := List.mem_map.1 (hp.mem_iff.1 hpm)
    exact ⟨n, hn, KL.inj _ _ (WideAt.sameKey_eq hs)⟩
  · rintro ⟨n, hn, rfl⟩
    exact ⟨_, hp.mem_iff.2 (List.mem_map.2 ⟨n, hn, rfl⟩), WideAt.sameKey_self (KL.isKey hx)⟩
/-- 'v, ok := m[k]'. -/
theorem MapOf.ok_yes (h : MapOf P kt kl w M N) (KL : KeyLaws P kt mt et kv kl ok) (hn : (N.map (·.1)).Nodup) {x : K} {a : Nat} (hm : (x, a) ∈ N) (hx : ok x) :
    (Instr.lookup mt (.map (some M)) (kv x) true).run P w = .ok (.tuple #[.pointer (some ⟨a, 0, none⟩), .bool true]) w := by
  obtain ⟨L, ho, hp⟩ := h
  obtain ⟨v, ps, hrun, hv⟩ := ho.look_ok KL.keyed KL.und (KL.zero w) (zd := .held (.pointer none)) (zp := []) rfl (KL.key x hx)
  rw [at_yes KL hp hn hm hx] at hv
  simp only [heldR, Option.some.injEq, Prod.mk.injEq, DataW.held.injEq] at hv
  rw [hrun, hv.1, (has_iff hp KL hx).2 ⟨_, hm, rfl⟩]
theorem MapOf.ok_no (h : MapOf P kt kl w M N) (KL : KeyLaws P kt mt et kv kl ok) {x : K} (hno : ∀ n, n ∈ N → n.1 ≠ x) (hx : ok x) :
    (Instr.lookup mt (.map (some M)) (kv x) true).run P w = .ok (.tuple #[.pointer none, .bool false]) w := by
  obtain ⟨L, ho, hp⟩ := h
  obtain ⟨v, ps, hrun, hv⟩ := ho.look_ok KL.keyed KL.und (KL.zero w) (zd := .held (.pointer none)) (zp := []) rfl (KL.key x hx)
  rw [at_no KL hp hno] at hv
  simp only [heldR, Option.some.injEq, Prod.mk.injEq, DataW.held.injEq] at hv
  have h0 : Maps.has (DataW.map L) (kl x) = false := by
    cases hb : Maps.has (DataW.map L) (kl x) with
    | false => rfl
    | true => obtain ⟨n, h1, h2⟩ := (has_iff hp KL hx).1 hb; exact absurd h2 (hno n h1)
  rw [hrun, hv.1, h0]
theorem MapOf.len (h : MapOf P kt kl w M N) (KL : KeyLaws P kt mt et kv kl ok) (ty : TypeId) : (Builtin.len_ #[mt] ty #[.map (some M)]).run P w = .ok (.int .i64 (N.length : Int)) w := by
  obtain ⟨L, ho, hp⟩ := h
  rw [ho.len KL.und ty]
  have : Maps.size (DataW.map L) = N.length := by
    show L.length = N.length
    rw [hp.length_eq, List.length_map]
  rw [this]
end
end Go.Proofs.Ytpiemnffbcgbmaa
