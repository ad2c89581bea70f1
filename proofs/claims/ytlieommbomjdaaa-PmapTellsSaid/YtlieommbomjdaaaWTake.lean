/- What package walk's Leaves keeps in mind: a map from a table's place to its row of branches, by what holds of all that it holds. What package walk's Leaves makes of a memory: rows of branches, table by table; what is finished stands, whatever is made beside it. Package walk's take: the world in which it goes on: the memory, the map, what is finished, the row that it makes. Package walk's take: a row for what lies below a frame that is a table of a level; what was known stays. -/
import Derived.Test.YtlieommbomjdaaaWSays
import Derived.Test.YtlieommbomjdaaaWB2
import Derived.Maps.OwnSet
import Derived.DeepKeys4
import Derived.Deep.AppendLies
namespace Go.Proofs.Ytlieommbomjdaaa
open Go.ChangeShapes Go.WideShapes Go.ChangeAt Go.RowKit Go.Deep
open Go.Maps (Keyed)
set_option linter.unusedVariables false

theorem laidW : laidOutB Try.prog = true := by kernel_rfl
theorem spot_keyed : Keyed Try.prog 120 := Keyed.of_law (deep_law_laid laidW (m := 2) (by omega) (of_decide_eq_true (by kernel_rfl)) (by kernel_rfl) (by rw [Try.underlying120]))

def spotV (f l : Int) : Value := .agg #[.int .i64 f, .int .i64 l]
def spotL (f l : Int) : Lit := .string (keyBytes [.int .i64 f, .int .i64 l])

theorem wf_okI {x : Int} (h : okI x) : (Lit.int .i64 x).wf = true := by
  have h1 := h.1
  have h2 := h.2
  simp [Lit.wf, IntKind.min, IntKind.max, IntKind.signed, IntKind.bits]
  omega

theorem spot_key {f l : Int} (hf : okI f) (hl : okI l) : keyOf Try.prog 120 (spotV f l) = some (spotL f l) := by
  have hkt : Try.prog.keyType 120 = true := by kernel_rfl
  have hcs : Try.prog.cellsOf 120 = 2 := by kernel_rfl
  have hci : Try.prog.cellsOf 3 = 1 := by kernel_rfl
  obtain ⟨m, hm⟩ : ∃ m, Try.prog.types.size = m + 1 := ⟨Try.prog.types.size - 1, by have : 0 < Try.prog.types.size := of_decide_eq_true (by kernel_rfl); omega⟩
  have w1 := wf_okI hf
  have w2 := wf_okI hl
  unfold keyOf spotV spotL
  simp only [Try.underlying120]
  rw [if_pos (by simp [hkt, Value.formed, Try.underlying120, hcs]), hm]
  unfold Program.keyLits
  simp only [Try.underlying120, Value.cells]
  rw [if_pos (by simp [hcs])]
  simp [hci, Program.keyLits, Try.underlying3, w1, w2]

def heldV (v : Value) : Option (DataW Value × List MemPlace) := some (.held v, [])

/-- Block M is a map of at most c entries, of each of which Q holds. -/
def MapR (w : World) (M c : Nat) (Q : Int → Int → Value → Prop) : Prop :=
  ∃ L, w.ownsMap Try.prog 120 heldV M L.length (.map L) ∧ L.length ≤ c ∧ ∀ p, p ∈ L → ∃ f l v, okI f ∧ okI l ∧ p = (spotL f l, DataW.held v) ∧ Q f l v

theorem tightR {w : World} {M n : Nat} {L : List (Lit × DataW Value)} (h : w.ownsMap Try.prog 120 heldV M n (.map L)) : w.ownsMap Try.prog 120 heldV M L.length (.map L) := by
  obtain ⟨es, clock, hb, F, hs, hD⟩ := h
  refine ⟨es, clock, hb, F, ?_, hD⟩
  have := congrArg (fun d : DataW Value => match d with | .map l => l.length | _ => 0) hD
  simp only [length_sorted, List.length_map, Array.length_toList] at this
  omega

section
variable {w w' : World} {M c : Nat} {Q Q' : Int → Int → Value → Prop}
theorem MapR.lt (h : MapR w M c Q) : M < w.heap.size := by obtain ⟨L, ho, _⟩ := h; exact ho.lt
theorem MapR.isMap (h : MapR w M c Q) : ∃ es clock, w.heap[M]? = some (.map es clock) := by obtain ⟨L, ⟨es, clock, hb, _⟩, _⟩ := h; exact ⟨es, clock, hb⟩
theorem MapR.kept (h : MapR w M c Q) (hb : w'.heap[M]? = w.heap[M]?) : MapR w' M c Q := by
  obtain ⟨L, ⟨es, clock, h1, h2⟩, hl⟩ := h
  exact ⟨L, ⟨es, clock, hb.trans h1, h2⟩, hl⟩
theorem MapR.mono {c' : Nat} (h : MapR w M c Q) (hc : c ≤ c') (hQ : ∀ f l v, Q f l v → Q' f l v) : MapR w M c' Q' := by
  obtain ⟨L, ho, hl, he⟩ := h
  refine ⟨L, ho, Nat.le_trans hl hc, fun p hp => ?_⟩
  obtain ⟨f, l, v, h1, h2, h3, h4⟩ := he p hp
  exact ⟨f, l, v, h1, h2, h3, hQ _ _ _ h4⟩
theorem MapR.made (w : World) (Q : Int → Int → Value → Prop) : MapR (w.alloc (.map #[] 0)) w.heap.size 0 Q := ⟨[], World.ownsMap_made _ _ _ _, Nat.le_refl _, by simp⟩

theorem zero_branches (w : World) : (zeroValue 117).run Try.prog w = .ok (.slice none 0 0) w := by kernel_rfl

/-- 'v, ok := m[k]'. -/
theorem MapR.look (h : MapR w M c Q) {f l : Int} (hf : okI f) (hl : okI l) :
    ∃ v b, (Instr.lookup 114 (.map (some M)) (spotV f l) true).run Try.prog w = .ok (.tuple #[v, .bool b]) w ∧ ((b = false ∧ v = .slice none 0 0) ∨ (b = true ∧ Q f l v)) := by
  obtain ⟨L, ho, _, he⟩ := h
  obtain ⟨v, ps, hrun, hv⟩ := ho.look_ok spot_keyed Try.underlying114 (zero_branches w) (zd := .held (.slice none 0 0)) (zp := []) rfl (spot_key hf hl)
  refine ⟨v, _, hrun, ?_⟩
  unfold DataW.atKey at hv
  simp only at hv
  show (Maps.has (DataW.map L) (spotL f l) = false ∧ _) ∨ _
  unfold Maps.has
  cases hx : L.find? (fun p => p.1.sameKey (spotL f l)) with
  | none =>
    rw [hx] at hv
    have hn := List.find?_eq_none.1 hx
    refine .inl ⟨?_, ?_⟩
    · simp only [List.any_eq_false]
      exact hn
    · simp [heldV] at hv
      exact hv.1
  | some p =>
    rw [hx] at hv
    have h1 := List.find?_some hx
    have h2 := List.mem_of_find?_eq_some hx
    obtain ⟨f', l', v', o1, o2, rfl, hQ⟩ := he p h2
    have e := WideAt.sameKey_eq h1
    have e2 : spotV f' l' = spotV f l := spot_keyed.inj (spot_key o1 o2) (by rw [spot_key hf hl]; exact congrArg some e.symm)
    have e3 : f' = f ∧ l' = l := by unfold spotV at e2; simpa using e2
    obtain ⟨rfl, rfl⟩ := e3
    refine .inr ⟨?_, ?_⟩
    · simp only [List.any_eq_true]
      exact ⟨_, h2, h1⟩
    · simp [heldV] at hv
      rw [hv.1]
      exact hQ

/-- 'm[k] = v'. -/
theorem MapR.put (h : MapR w M c Q) (hc : c < maxLen) {f l : Int} {v : Value} (hf : okI f) (hl : okI l) (hQ : Q f l v) :
    ∃ w', (Instr.mapUpdate 114 (.map (some M)) (spotV f l) v).run Try.prog w = .ok () w' ∧ MapR w' M (c + 1) Q ∧ w.mapTurned w' M := by
  obtain ⟨L, ho, hle, he⟩ := h
  obtain ⟨w', hrun, ho', ht⟩ := ho.store spot_keyed Try.underlying114 (Nat.lt_of_le_of_lt hle hc) (val := v) (spot_key hf hl) rfl
  rw [DataW.put_eq] at ho'
  have hp : (ChangeMaps.putKey (spotL f l) (DataW.held v) L).Perm ((spotL f l, DataW.held v) :: L.filter (ChangeMaps.notKey (spotL f l))) := Go.WideShapes.insert_perm _ _
  refine ⟨w', hrun, ⟨_, tightR ho', ?_, fun p hpm => ?_⟩, ht⟩
  · rw [hp.length_eq, List.length_cons]
    have := List.length_filter_le (ChangeMaps.notKey (spotL f l)) L
    omega
  · rcases List.mem_cons.1 (hp.mem_iff.1 hpm) with rfl | hpm
    · exact ⟨f, l, v, hf, hl, rfl, hQ⟩
    · exact he p (List.mem_filter.1 hpm).1
end

/-- At the operation: 'm[k] = v'. -/
theorem wpList_putR {ops : Array Oper} {rest : List Oper} {o : Oper} {a : Act} {R : Exit → Act → World → Prop} {w : World} {M c : Nat} {Q : Int → Int → Value → Prop}
    (hg : o.guard = none) (m x y : Operand) (hop : o.op = Op.mapUpdate 114 m x y) (hm : a.eval m = .map (some M)) (h : MapR w M c Q) (hc : c < maxLen) (f l : Int) (v : Value) (hx : a.eval x = spotV f l) (hv : a.eval y = v)
    (hf : okI f) (hl : okI l) (hQ : Q f l v) (hK : ∀ w', MapR w' M (c + 1) Q → w.mapTurned w' M → wpList Try.prog ops R rest (a.put o.dst undef) w') :
    wpList Try.prog ops R (o :: rest) a w := by
  refine wpList_plain hg fun K' hK' => ?_
  obtain ⟨w', hrun, r1, r2⟩ := h.put hc hf hl hQ
  unfold Oper.wp
  simp [execOp, hop, hm, hx, hv, hrun, Result.andThen]
  exact hK' _ _ (hK w' r1 r2)
end Go.Proofs.Ytlieommbomjdaaa

namespace Go.Proofs.Ytlieommbomjdaaa
open Go.ChangeShapes Go.WideShapes Go.ChangeAt Go.RowKit Go.Deep
set_option linter.unusedVariables false

/-- An entry of a table: its index, its flags, its frame, the row of what lies below it. -/
structure BrV where
  i : Int
  fl : Int
  pp : Int
  u : Value
def brCells (x : BrV) : List Value := [.int .i64 x.i, .int .i64 x.fl, .int .i64 x.pp, x.u]
def nilS : Value := .slice none 0 0

/-- Finished blocks, and what they hold. -/
def Gh : Type := Nat → Option Obj
def Stands (w : World) (F : Gh) : Prop := ∀ b o, F b = some o → w.heap[b]? = some o ∧ ∃ cs t, o = .cells cs t (0, 0)
def RowG (F : Gh) (v : Value) (bs : List BrV) : Prop :=
  (bs = [] ∧ v = nilS) ∨ ∃ b cap cells, bs ≠ [] ∧ v = .slice (some ⟨b, 0, none⟩) bs.length cap ∧ F b = some (.cells cells 123 (0, 0)) ∧ cells.toList.take (bs.length * 4) = bs.flatMap brCells

def Itms (it : Nat → List BrV → Prop) : Nat → List BrV → Prop
  | 0, bs => bs = []
  | k + 1, bs => ∃ a x, Itms it k a ∧ it k x ∧ bs = a ++ x

section
variable (n : Nat) (L : List UInt8) (F : Gh)
def item0 (f : Int) (k : Nat) (xs : List BrV) : Prop := xs = if kindOf (flagOf (wordI n L f k)) = 2 then [⟨k, flagOf (wordI n L f k), ppnOf (wordI n L f k), nilS⟩] else []
def itemS (S : Int → Value → Prop) (f : Int) (k : Nat) (xs : List BrV) : Prop :=
  match nx n L f k with
  | none => xs = []
  | some g => ∃ u, S g u ∧ ((u = nilS ∧ xs = []) ∨ (u ≠ nilS ∧ xs = [⟨k, flagOf (wordI n L f k), ppnOf (wordI n L f k), u⟩]))
/-- A row for what lies below a frame that is a table of a level. -/
def Sub : Nat → Int → Value → Prop
  | 0, f, v => ∃ bs, RowG F v bs ∧ (if 0 ≤ f ∧ f < n then Itms (item0 n L f) 512 bs else bs = [])
  | l + 1, f, v => ∃ bs, RowG F v bs ∧ (if 0 ≤ f ∧ f < n then Itms (itemS n L (Sub l) f) 512 bs else bs = [])
def itemL (l : Nat) (f : Int) : Nat → List BrV → Prop := match l with | 0 => item0 n L f | l + 1 => itemS n L (Sub n L F l) f
end

theorem sub_eq (n : Nat) (L : List UInt8) (F : Gh) (l : Nat) (f : Int) (v : Value) : Sub n L F l f v ↔ ∃ bs, RowG F v bs ∧ (if 0 ≤ f ∧ f < n then Itms (itemL n L F l f) 512 bs else bs = []) := by
  cases l <;> exact Iff.rfl

theorem Itms.mono {it it' : Nat → List BrV → Prop} (h : ∀ k xs, it k xs → it' k xs) : ∀ {k : Nat} {bs : List BrV}, Itms it k bs → Itms it' k bs
  | 0, _, hb => hb
  | k + 1, _, ⟨a, x, ha, hx, e⟩ => ⟨a, x, Itms.mono h ha, h _ _ hx, e⟩

theorem RowG.mono {F F' : Gh} (h : ∀ b o, F b = some o → F' b = some o) {v : Value} {bs : List BrV} (hr : RowG F v bs) : RowG F' v bs := by
  rcases hr with hr | ⟨b, cap, cells, h0, h1, h2, h3⟩
  · exact .inl hr
  · exact .inr ⟨b, cap, cells, h0, h1, h _ _ h2, h3⟩
theorem RowG.one {F : Gh} {v : Value} {bs : List BrV} (hr : RowG F v bs) : ∃ s l c, v = .slice s l c := by
  rcases hr with ⟨_, rfl⟩ | ⟨b, cap, cells, h0, rfl, h2, h3⟩
  · exact ⟨_, _, _, rfl⟩
  · exact ⟨_, _, _, rfl⟩
theorem RowG.nil_iff {F : Gh} {v : Value} {bs : List BrV} (hr : RowG F v bs) : v = nilS ↔ bs = [] := by
  rcases hr with ⟨rfl, rfl⟩ | ⟨b, cap, cells, h0, rfl, h2, h3⟩
  · simp
  · constructor
    · intro h; unfold nilS at h; simp at h
    · intro h; exact absurd h h0

section
variable {n : Nat} {L : List UInt8} {F F' : Gh}
theorem itemS.mono {S S' : Int → Value → Prop} (h : ∀ g u, S g u → S' g u) {f : Int} {k : Nat} {xs : List BrV} (hx : itemS n L S f k xs) : itemS n L S' f k xs := by
  unfold itemS at *
  cases hn : nx n L f k with
  | none => rw [hn] at hx; exact hx
  | some g =>
    rw [hn] at hx
    obtain ⟨u, hu, hx⟩ := hx
    exact ⟨u, h _ _ hu, hx⟩
theorem Sub.mono (h : ∀ b o, F b = some o → F' b = some o) : ∀ {l : Nat} {f : Int} {v : Value}, Sub n L F l f v → Sub n L F' l f v
  | 0, f, v, ⟨bs, hr, hb⟩ => ⟨bs, hr.mono h, hb⟩
  | l + 1, f, v, ⟨bs, hr, hb⟩ => ⟨bs, hr.mono h, by
    split at hb
    · rename_i hf; rw [if_pos hf]; exact Itms.mono (fun k xs hx => itemS.mono (fun g u hu => Sub.mono h hu) hx) hb
    · rename_i hf; rw [if_neg hf]; exact hb⟩
theorem itemL.mono (h : ∀ b o, F b = some o → F' b = some o) {l : Nat} {f : Int} {k : Nat} {xs : List BrV} (hx : itemL n L F l f k xs) : itemL n L F' l f k xs := by
  cases l with
  | zero => exact hx
  | succ l => exact itemS.mono (fun g u hu => Sub.mono h hu) hx
theorem itemL.len {l : Nat} {f : Int} {k : Nat} {xs : List BrV} (hx : itemL n L F l f k xs) : xs.length ≤ 1 := by
  cases l with
  | zero =>
    have hx' : item0 n L f k xs := hx
    unfold item0 at hx'
    rw [hx']
    split <;> simp
  | succ l =>
    have hx' : itemS n L (Sub n L F l) f k xs := hx
    unfold itemS at hx'
    split at hx'
    · rw [hx']; simp
    · obtain ⟨u, _, h⟩ := hx'
      rcases h with ⟨_, h⟩ | ⟨_, h⟩ <;> rw [h] <;> simp
theorem itms_len {l : Nat} {f : Int} : ∀ {k : Nat} {bs : List BrV}, Itms (itemL n L F l f) k bs → bs.length ≤ k
  | 0, bs, h => by rw [show bs = [] from h]; simp
  | k + 1, bs, ⟨a, x, ha, hx, e⟩ => by
    have h1 := itms_len ha
    have h2 := itemL.len hx
    rw [e, List.length_append]
    omega
end

/-- A row of branches that a call has made. -/
def BrsOwn (w : World) (base : Nat) (v : Value) (xs : List BrV) : Prop := w.ownsRow base 123 4 v xs.length (xs.flatMap brCells)

section
variable {w : World} {base : Nat} {v : Value} {xs : List BrV}
theorem BrsOwn.nil (w : World) (base : Nat) : BrsOwn w base nilS [] := World.ownsRow_nil _ _ _ _
theorem BrsOwn.form (h : BrsOwn w base v xs) : ∃ a c, v = .slice a xs.length c := by
  rcases h.2 with ⟨rfl, h0⟩ | ⟨g, cap, cur, rfl, _⟩
  · exact ⟨none, 0, by rw [h0]⟩
  · exact ⟨_, _, rfl⟩
theorem BrsOwn.lt (h : BrsOwn w base v xs) {g : Nat} (hg : v.ownBlock = some g) : base ≤ g ∧ g < w.heap.size := World.ownsRow.lt h g hg
theorem BrsOwn.block (h : BrsOwn w base v xs) {g : Nat} (hg : v.ownBlock = some g) : ∃ cur, w.heap[g]? = some (.cells cur 123 (0, 0)) := by
  rcases h.2 with ⟨rfl, h0⟩ | ⟨g', cap, cur, rfl, _, hb, _⟩
  · simp [Value.ownBlock] at hg
  · obtain rfl : g' = g := by simpa [Value.ownBlock] using hg
    exact ⟨cur, hb⟩
theorem BrsOwn.kept {w' : World} (h : BrsOwn w base v xs) (hb : ∀ g, v.ownBlock = some g → w'.heap[g]? = w.heap[g]?) : BrsOwn w' base v xs := by
  refine ⟨h.1, ?_⟩
  rcases h.2 with hn | ⟨g, cap, cur, rfl, hb2, hgg, rest⟩
  · exact .inl hn
  · exact .inr ⟨g, cap, cur, rfl, hb2, (hb g rfl).trans hgg, rest⟩
theorem BrsOwn.rowG (h : BrsOwn w base v xs) (h0 : xs = [] → v = nilS) (F : Gh) : RowG (fun b => if v.ownBlock = some b then w.heap[b]? else F b) v xs := by
  by_cases hx : xs = []
  · exact .inl ⟨hx, h0 hx⟩
  · rcases h.2 with ⟨rfl, h1⟩ | ⟨g, cap, cur, rfl, _, hb, _, _, _, ht⟩
    · exact absurd (List.length_eq_zero_iff.1 h1) hx
    · exact .inr ⟨g, cap, cur, hx, rfl, by simp only [Value.ownBlock, if_pos]; exact hb, ht⟩
end

theorem info_branch : (Try.prog.info? 123).map (fun i => (i.zero, i.size, i.bytes)) = some (some (.agg #[.int .i64 0, .int .i64 0, .int .i64 0, .slice none 0 0]), 4, 48) := by kernel_rfl

/-- 'append(s, x)', behind the block in which x is laid. -/
theorem wpList_br {ops : Array Oper} {rest : List Oper} {o : Oper} {a : Act} {Q : Exit → Act → World → Prop} (w : World) (hgd : o.guard = none) (s x : Operand)
    (ho : o.op = .call { callee := .builtin .append, args := #[s, x], argTypes := #[117, 117] }) (base : Nat) (v : Value) (xs : List BrV) (y : BrV) (hs : a.eval s = v) (h : BrsOwn w base v xs) (H c : Nat)
    (hx : a.eval x = .slice (some ⟨H, 0, none⟩) 1 c) (hH : w.heap.size = H) (hl : xs.length ≤ 134217728) (hbase : base ≤ H) (hy : y.u.oneCell' = true)
    (hK : ∀ g cap w', BrsOwn w' base (.slice (some ⟨g, 0, none⟩) (xs.length + 1) cap) (xs ++ [y]) → (w.alloc (.cells #[.int .i64 y.i, .int .i64 y.fl, .int .i64 y.pp, y.u] 123)).grownBy w' v.ownBlock → (v.ownBlock = some g ∨ g = H + 1) → wpList Try.prog ops Q rest (a.put o.dst (.slice (some ⟨g, 0, none⟩) (xs.length + 1) cap)) w') :
    wpList Try.prog ops Q (o :: rest) a (w.alloc (.cells #[.int .i64 y.i, .int .i64 y.fl, .int .i64 y.pp, y.u] 123)) := by
  obtain ⟨i0, hi, hz0, hz1, hz2⟩ := info_parts info_branch
  subst hH
  refine wpList_append_lies _ hgd s x 117 ho base 123 i0 (.agg #[.int .i64 0, .int .i64 0, .int .i64 0, .slice none 0 0]) 4 48 Try.underlying117 hi hz0 hz1 hz2 rfl (by decide) v xs.length (xs.flatMap brCells) hs (World.ownsRow.alloc h _) ⟨w.heap.size, 0, none⟩ 1 c (brCells y) hx rfl ?_ ?_ (by omega) (by unfold maxLen; omega) (by omega) (by simp; omega) (w.heap.size + 1) (by simp) ?_
  · exact World.news_of_block (heap_alloc_new w _)
  · intro u hu; simp [brCells] at hu; rcases hu with rfl | rfl | rfl | rfl <;> first | rfl | exact hy
  · intro g cap w' hown hgrow hat hlt
    refine hK g cap w' ?_ hgrow hat
    unfold BrsOwn
    simp only [List.length_append, List.length_cons, List.length_nil, List.flatMap_append, List.flatMap_cons, List.flatMap_nil, List.append_nil]
    exact hown
end Go.Proofs.Ytlieommbomjdaaa

namespace Go.Proofs.Ytlieommbomjdaaa
open Go.ChangeShapes Go.WideShapes Go.ChangeAt Go.RowKit Go.Deep
set_option linter.unusedVariables false

/-- How many tables are put down at most. -/
def cost : Nat → Nat
  | 0 => 1
  | l + 1 => 1 + 512 * cost l

/-- What the map holds. -/
def Known (n : Nat) (L : List UInt8) (F : Gh) (f l : Int) (v : Value) : Prop := ∃ q : Nat, l = q ∧ Sub n L F q f v

structure TakeW (w0 w : World) (m d n : Nat) (L : List UInt8) (M c : Nat) (F : Gh) : Prop where
  st : St w0 w m d n L
  map : MapR w M c (Known n L F)
  stands : Stands w F
  mge : w0.heap.size ≤ M

section
variable {w0 w w' w2 : World} {m d n : Nat} {L : List UInt8} {M c c' : Nat} {F F' : Gh}

theorem Stands.lt (h : Stands w F) {b : Nat} {o : Obj} (hb : F b = some o) : b < w.heap.size := (Array.getElem?_eq_some_iff.1 (h b o hb).1).1
theorem TakeW.Mm (h : TakeW w0 w m d n L M c F) : M ≠ m := fun e => by
  obtain ⟨es, clock, hb⟩ := h.map.isMap
  rw [e, h.st.mem.head] at hb
  cases hb
theorem TakeW.Md (h : TakeW w0 w m d n L M c F) : M ≠ d := fun e => by
  obtain ⟨es, clock, hb⟩ := h.map.isMap
  rw [e, h.st.mem.body] at hb
  cases hb
theorem TakeW.Mlt (h : TakeW w0 w m d n L M c F) : M < w.heap.size := h.map.lt
theorem TakeW.MF (h : TakeW w0 w m d n L M c F) : F M = none := by
  cases hb : F M with
  | none => rfl
  | some o =>
    obtain ⟨h1, cs, t, rfl⟩ := h.stands M o hb
    obtain ⟨es, clock, h2⟩ := h.map.isMap
    rw [h2] at h1
    cases h1
/-- Beside all this, something is made. -/
theorem TakeW.grow (h : TakeW w0 w m d n L M c F) (g : w.grownBy w' none) : TakeW w0 w' m d n L M c F :=
  ⟨h.st.grow g, h.map.kept (g.block _ h.Mlt (by simp)), fun b o hb => ⟨(g.block _ (h.stands.lt hb) (by simp)).trans (h.stands b o hb).1, (h.stands b o hb).2⟩, h.mge⟩
/-- .. a block turns that is none of these. -/
theorem TakeW.grow' {x : Nat} (h : TakeW w0 w m d n L M c F) (g : w.grownBy w' (some x)) (hx : w0.heap.size ≤ x) (h1 : x ≠ m) (h2 : x ≠ d) (h3 : x ≠ M) (h4 : F x = none) : TakeW w0 w' m d n L M c F :=
  ⟨h.st.grow' g hx h1 h2, h.map.kept (g.block _ h.Mlt (fun e => h3 (Option.some.inj e).symm)),
    fun b o hb => ⟨(g.block _ (h.stands.lt hb) (fun e => by rw [← Option.some.inj e, hb] at h4; cases h4)).trans (h.stands b o hb).1, (h.stands b o hb).2⟩, h.mge⟩
theorem TakeW.weak (h : TakeW w0 w m d n L M c F) (hc : c ≤ c') : TakeW w0 w m d n L M c' F := ⟨h.st, h.map.mono hc fun _ _ _ h => h, h.stands, h.mge⟩
/-- A row is finished. -/
def addG (F : Gh) (w : World) (v : Value) : Gh := fun b => if v.ownBlock = some b then w.heap[b]? else F b
theorem addG_ext {v : Value} (hF : ∀ g, v.ownBlock = some g → F g = none) : ∀ b o, F b = some o → addG F w v b = some o := fun b o hb => by
  unfold addG
  rw [if_neg (fun e => by rw [hF b e] at hb; cases hb)]
  exact hb
theorem TakeW.add {base : Nat} {v : Value} {bs : List BrV} (h : TakeW w0 w m d n L M c F) (ho : BrsOwn w base v bs) (hF : ∀ g, v.ownBlock = some g → F g = none) : TakeW w0 w m d n L M c (addG F w v) :=
  ⟨h.st, h.map.mono (Nat.le_refl _) fun f l u ⟨q, e, hs⟩ => ⟨q, e, hs.mono (addG_ext hF)⟩, fun b o hb => by
    unfold addG at hb
    by_cases e : v.ownBlock = some b
    · rw [if_pos e] at hb
      obtain ⟨cur, hc⟩ := ho.block e
      refine ⟨hb, cur, 123, ?_⟩
      rw [hc] at hb
      exact (Option.some.inj hb).symm
    · rw [if_neg e] at hb
      exact h.stands b o hb, h.mge⟩
end

/-- The two boxes of take's own names. -/
structure Boxes (w : World) (b m M : Nat) (f l : Int) : Prop where
  c : w.heap[b]? = some (.cells #[.pointer (some ⟨m, 0, none⟩), .map (some M)] 116 (0, 0))
  s : w.heap[b + 1]? = some (.cells #[.int .i64 f, .int .i64 l] 120 (0, 0))
section
variable {w w' : World} {b m M : Nat} {f l : Int}
theorem Boxes.at (h : Boxes w b m M f l) : w.cell? ⟨b, 0, none⟩ = some (.pointer (some ⟨m, 0, none⟩)) ∧ w.cell? ⟨b, 1, none⟩ = some (.map (some M)) ∧ w.cell? ⟨b + 1, 0, none⟩ = some (.int .i64 f) ∧ w.cell? ⟨b + 1, 1, none⟩ = some (.int .i64 l) :=
  ⟨by rw [cell_of_row _ _ _ _ _ _ h.c]; rfl, by rw [cell_of_row _ _ _ _ _ _ h.c]; rfl, by rw [cell_of_row _ _ _ _ _ _ h.s]; rfl, by rw [cell_of_row _ _ _ _ _ _ h.s]; rfl⟩
theorem Boxes.lt (h : Boxes w b m M f l) : b < w.heap.size ∧ b + 1 < w.heap.size := ⟨(Array.getElem?_eq_some_iff.1 h.c).1, (Array.getElem?_eq_some_iff.1 h.s).1⟩
theorem Boxes.grow (h : Boxes w b m M f l) (g : w.grownBy w' none) : Boxes w' b m M f l := ⟨(g.block _ h.lt.1 (by simp)).trans h.c, (g.block _ h.lt.2 (by simp)).trans h.s⟩
theorem Boxes.grow' {x : Nat} (h : Boxes w b m M f l) (g : w.grownBy w' (some x)) (h1 : x ≠ b) (h2 : x ≠ b + 1) : Boxes w' b m M f l :=
  ⟨(g.block _ h.lt.1 (fun e => h1 (Option.some.inj e).symm)).trans h.c, (g.block _ h.lt.2 (fun e => h2 (Option.some.inj e).symm)).trans h.s⟩
theorem Boxes.new (w : World) (m M : Nat) (f l : Int) : Boxes ((w.alloc (.cells #[.pointer (some ⟨m, 0, none⟩), .map (some M)] 116)).alloc (.cells #[.int .i64 f, .int .i64 l] 120)) w.heap.size m M f l :=
  ⟨((World.grownBy_alloc (w.alloc (.cells #[.pointer (some ⟨m, 0, none⟩), .map (some M)] 116)) (.cells #[.int .i64 f, .int .i64 l] 120) none).block w.heap.size (by simp) (by simp)).trans (heap_alloc_new w _),
    by have := heap_alloc_new (w.alloc (.cells #[.pointer (some ⟨m, 0, none⟩), .map (some M)] 116)) (.cells #[.int .i64 f, .int .i64 l] 120); simpa using this⟩
end

/-- In take's loop, behind k entries. ws: the world in which it was called. -/
structure TakeI (w0 ws wr : World) (m d n : Nat) (L : List UInt8) (M c : Nat) (F0 F : Gh) (l : Nat) (f : Int) (k : Nat) (v : Value) (bs : List BrV) : Prop where
  tk : TakeW w0 wr m d n L M c F
  bx : Boxes wr ws.heap.size m M f l
  own : BrsOwn wr ws.heap.size v bs
  its : Itms (itemL n L F l f) k bs
  grown : ws.grownBy wr (some M)
  old : ∀ b, b < ws.heap.size → F b = F0 b
  row : ∀ g, v.ownBlock = some g → F g = none
  nil : bs = [] → v = nilS
  Mlt : M < ws.heap.size
  mlt : m < ws.heap.size
  dlt : d < ws.heap.size
  base : w0.heap.size ≤ ws.heap.size

section
variable {w0 ws wr w2 : World} {m d n : Nat} {L : List UInt8} {M c c' : Nat} {F0 F F' : Gh} {l : Nat} {f : Int} {k : Nat} {v : Value} {bs : List BrV}

theorem grown_M {a b e : World} {x : Nat} (h : a.grownBy b (some x)) (g : b.grownBy e none) : a.grownBy e (some x) := grown_trans h (grown_none g)
theorem grown_new' {a b e : World} {x y : Nat} (h : a.grownBy b (some x)) (g : b.grownBy e (some y)) (hy : a.heap.size ≤ y) : a.grownBy e (some x) :=
  ⟨g.os.trans h.os, g.tape.trans h.tape, g.output.trans h.output, Nat.le_trans h.size g.size, fun k hk hx => (g.block k (Nat.lt_of_lt_of_le hk h.size) (by intro e; have e2 := Option.some.inj e; omega)).trans (h.block k hk hx)⟩

theorem TakeI.grow (h : TakeI w0 ws wr m d n L M c F0 F l f k v bs) (g : wr.grownBy w2 none) : TakeI w0 ws w2 m d n L M c F0 F l f k v bs :=
  ⟨h.tk.grow g, h.bx.grow g, h.own.kept fun b hb => g.block b (h.own.lt hb).2 (by simp), h.its, grown_M h.grown g, h.old, h.row, h.nil, h.Mlt, h.mlt, h.dlt, h.base⟩
theorem TakeI.weak (h : TakeI w0 ws wr m d n L M c F0 F l f k v bs) (hc : c ≤ c') : TakeI w0 ws wr m d n L M c' F0 F l f k v bs :=
  ⟨h.tk.weak hc, h.bx, h.own, h.its, h.grown, h.old, h.row, h.nil, h.Mlt, h.mlt, h.dlt, h.base⟩
/-- A take within. -/
theorem TakeI.sub (h : TakeI w0 ws wr m d n L M c F0 F l f k v bs) (t : TakeW w0 w2 m d n L M c' F') (g : wr.grownBy w2 (some M)) (ho : ∀ b, b < wr.heap.size → F' b = F b) : TakeI w0 ws w2 m d n L M c' F0 F' l f k v bs := by
  have hM := h.Mlt
  have hext : ∀ b o, F b = some o → F' b = some o := fun b o hb => (ho b (h.tk.stands.lt hb)).trans hb
  refine ⟨t, h.bx.grow' g (by omega) (by omega), h.own.kept fun b hb => g.block b (h.own.lt hb).2 (fun e => ?_), h.its.mono fun k xs hx => hx.mono hext, grown_trans h.grown g, fun b hb => (ho b (by have := h.grown.size; omega)).trans (h.old b hb), fun b hb => (ho b (h.own.lt hb).2).trans (h.row b hb), h.nil, h.Mlt, h.mlt, h.dlt, h.base⟩
  have h1 := (h.own.lt hb).1
  have h2 := Option.some.inj e
  omega
/-- An entry that is none. -/
theorem TakeI.skip (h : TakeI w0 ws wr m d n L M c F0 F l f k v bs) (hx : itemL n L F l f k []) : TakeI w0 ws wr m d n L M c F0 F l f (k + 1) v bs :=
  ⟨h.tk, h.bx, h.own, ⟨bs, [], h.its, hx, by simp⟩, h.grown, h.old, h.row, h.nil, h.Mlt, h.mlt, h.dlt, h.base⟩
/-- An entry that is put to the row. -/
theorem TakeI.app {o : Obj} {g cap : Nat} {y : BrV} (h : TakeI w0 ws wr m d n L M c F0 F l f k v bs) (hx : itemL n L F l f k [y]) (gr : (wr.alloc o).grownBy w2 v.ownBlock)
    (hown : BrsOwn w2 ws.heap.size (.slice (some ⟨g, 0, none⟩) (bs.length + 1) cap) (bs ++ [y])) (hat : v.ownBlock = some g ∨ g = wr.heap.size + 1) : TakeI w0 ws w2 m d n L M c F0 F l f (k + 1) (.slice (some ⟨g, 0, none⟩) (bs.length + 1) cap) (bs ++ [y]) := by
  have hM := h.Mlt
  have hm := h.mlt
  have hd := h.dlt
  have hb := h.base
  have ga := World.grownBy_alloc wr o none
  have hF : F g = none := by
    rcases hat with e | e
    · exact h.row g e
    · cases hq : F g with
      | none => rfl
      | some o => have := h.tk.stands.lt hq; omega
  have h2 := h.grow ga
  have its : Itms (itemL n L F l f) (k + 1) (bs ++ [y]) := ⟨bs, [y], h.its, hx, rfl⟩
  have row : ∀ g', (Value.slice (some ⟨g, 0, none⟩) (bs.length + 1) cap).ownBlock = some g' → F g' = none := fun g' hg => by
    obtain rfl : g = g' := by simpa [Value.ownBlock] using hg
    exact hF
  cases hv : v.ownBlock with
  | none =>
    rw [hv] at gr
    have h3 := h2.grow gr
    exact ⟨h3.tk, h3.bx, hown, its, h3.grown, h3.old, row, by simp, h.Mlt, h.mlt, h.dlt, h.base⟩
  | some x =>
    rw [hv] at gr
    have hx1 := (h.own.lt hv).1
    have hx2 := h.row x hv
    obtain ⟨cur, hcur⟩ := h.own.block hv
    have n1 : x ≠ ws.heap.size := fun e => by rw [e, h.bx.c] at hcur; simp at hcur
    have n2 : x ≠ ws.heap.size + 1 := fun e => by rw [e, h.bx.s] at hcur; simp at hcur
    exact ⟨h2.tk.grow' gr (by omega) (by omega) (by omega) (by omega) hx2, h2.bx.grow' gr n1 n2, hown, its, grown_new' h2.grown gr hx1, h.old, row, by simp, h.Mlt, h.mlt, h.dlt, h.base⟩
end

/-- What take leaves. -/
def Taken (w0 ws : World) (m d n : Nat) (L : List UInt8) (M c : Nat) (F0 : Gh) (l : Nat) (f : Int) (e : Ending) (w' : World) : Prop :=
  ∃ v F', e = .returned v ∧ TakeW w0 w' m d n L M c F' ∧ Sub n L F' l f v ∧ ws.grownBy w' (some M) ∧ ∀ b, b < ws.heap.size → F' b = F0 b
end Go.Proofs.Ytlieommbomjdaaa

namespace Go.Proofs.Ytlieommbomjdaaa
open Go.ChangeShapes Go.WideShapes Go.ChangeAt Go.RowKit Go.Deep
set_option linter.unusedVariables false

/-- A branch that is boxed, as a block. -/
def BrB (w : World) (y : Nat) (i A B : Int) (u : Value) : Prop := w.heap[y]? = some (.cells #[.int .i64 i, .int .i64 A, .int .i64 B, u] 123 (0, 0))
section
variable {w w' : World} {y : Nat} {i A B : Int} {u : Value}
theorem BrB.at (h : BrB w y i A B u) : w.cell? ⟨y, 0, none⟩ = some (.int .i64 i) ∧ w.cell? ⟨y, 1, none⟩ = some (.int .i64 A) ∧ w.cell? ⟨y, 2, none⟩ = some (.int .i64 B) ∧ w.cell? ⟨y, 3, none⟩ = some u :=
  ⟨by rw [cell_of_row _ _ _ _ _ _ h]; rfl, by rw [cell_of_row _ _ _ _ _ _ h]; rfl, by rw [cell_of_row _ _ _ _ _ _ h]; rfl, by rw [cell_of_row _ _ _ _ _ _ h]; rfl⟩
theorem BrB.lt (h : BrB w y i A B u) : y < w.heap.size := (Array.getElem?_eq_some_iff.1 h).1
theorem BrB.frozen (h : BrB w y i A B u) : w.frozen? ⟨y, 3, none⟩ = false := frozen_of_row w y 3 _ _ h
theorem BrB.grow (h : BrB w y i A B u) (g : w.grownBy w' none) : BrB w' y i A B u := (g.block _ h.lt (by simp)).trans h
theorem BrB.grow' {x : Nat} (h : BrB w y i A B u) (g : w.grownBy w' (some x)) (hx : x ≠ y) : BrB w' y i A B u := (g.block _ h.lt (fun e => hx (Option.some.inj e).symm)).trans h
theorem BrB.set (h : BrB w y i A B u) (u' : Value) : BrB (w.setCell ⟨y, 3, none⟩ u') y i A B u' := heap_setCell_same w y 3 _ _ u' h
end

section
variable {w0 ws wr w2 : World} {m d n : Nat} {L : List UInt8} {M c : Nat} {F0 F : Gh} {l : Nat} {f : Int} {k : Nat} {v : Value} {bs : List BrV}
theorem TakeI.grow' {x : Nat} (h : TakeI w0 ws wr m d n L M c F0 F l f k v bs) (g : wr.grownBy w2 (some x)) (hx : ws.heap.size + 2 ≤ x) (hr : v.ownBlock ≠ some x) (hF : F x = none) : TakeI w0 ws w2 m d n L M c F0 F l f k v bs := by
  have hM := h.Mlt
  have hm := h.mlt
  have hd := h.dlt
  have hb := h.base
  exact ⟨h.tk.grow' g (by omega) (by omega) (by omega) (by omega) hF, h.bx.grow' g (by omega) (by omega), h.own.kept fun b hb => g.block b (h.own.lt hb).2 (fun e => hr (by rw [hb, e])), h.its, grown_new' h.grown g (by omega), h.old, h.row, h.nil, h.Mlt, h.mlt, h.dlt, h.base⟩
/-- A block that was made lately is none of these. -/
theorem TakeI.fresh (h : TakeI w0 ws wr m d n L M c F0 F l f k v bs) : ws.heap.size + 2 ≤ wr.heap.size ∧ v.ownBlock ≠ some wr.heap.size ∧ F wr.heap.size = none := by
  refine ⟨?_, fun e => ?_, ?_⟩
  · have := h.bx.lt.2; omega
  · have := (h.own.lt e).2; omega
  · cases hq : F wr.heap.size with
    | none => rfl
    | some o => have := h.tk.stands.lt hq; omega
end

theorem grown_setAt (W : World) (b o : Nat) (v : Value) : W.grownBy (W.setCell ⟨b, o, none⟩ v) (some b) := ⟨rfl, rfl, rfl, by simp, fun k _ hk => heap_setCell_other W _ k v (fun e => hk (by rw [e]))⟩

def TakeOk (l : Nat) : Prop := ∀ (w0 w : World) (m d n : Nat) (L : List UInt8) (M c : Nat) (F : Gh) (f : Int), TakeW w0 w m d n L M c F → okI f → c + cost l < maxLen →
  Calls Try.prog 68 #[.agg #[.pointer (some ⟨m, 0, none⟩), .map (some M)], .agg #[.int .i64 f, .int .i64 l]] w (Taken w0 w m d n L M (c + cost l) F l f)

def sub1 : Nat → Nat
  | 0 => 0
  | q + 1 => cost q
theorem cost_eq (l : Nat) : cost l = 1 + 512 * sub1 l := by cases l <;> rfl
theorem cost_pos (l : Nat) : 1 ≤ cost l := by cases l <;> simp [cost]

theorem item_zero (n : Nat) (L : List UInt8) (F : Gh) (l : Nat) (f : Int) (k : Nat) (hl : l = 0) : itemL n L F l f k (if kindOf (flagOf (wordI n L f k)) = 2 then [⟨k, flagOf (wordI n L f k), ppnOf (wordI n L f k), nilS⟩] else []) := by
  subst hl
  exact rfl
theorem item_none (n : Nat) (L : List UInt8) (F : Gh) (q : Nat) (f : Int) (k : Nat) (hn : nx n L f k = none) : itemL n L F (q + 1) f k [] := by
  show itemS n L (Sub n L F q) f k []
  unfold itemS
  rw [hn]
theorem item_nil (n : Nat) (L : List UInt8) (F : Gh) (q : Nat) (f : Int) (k : Nat) (g : Int) (hn : nx n L f k = some g) (hs : Sub n L F q g nilS) : itemL n L F (q + 1) f k [] := by
  show itemS n L (Sub n L F q) f k []
  unfold itemS
  rw [hn]
  exact ⟨nilS, hs, .inl ⟨rfl, rfl⟩⟩
theorem item_some (n : Nat) (L : List UInt8) (F : Gh) (q : Nat) (f : Int) (k : Nat) (g : Int) (u : Value) (hn : nx n L f k = some g) (hs : Sub n L F q g u) (hu : u ≠ nilS) : itemL n L F (q + 1) f k [⟨k, flagOf (wordI n L f k), ppnOf (wordI n L f k), u⟩] := by
  show itemS n L (Sub n L F q) f k [⟨k, flagOf (wordI n L f k), ppnOf (wordI n L f k), u⟩]
  unfold itemS
  rw [hn]
  exact ⟨u, hs, .inr ⟨hu, rfl⟩⟩

set_option maxRecDepth 100000 in
set_option maxHeartbeats 4000000 in
theorem take_ok (l : Nat) (hl2 : l ≤ 2) (IH : ∀ q, q + 1 = l → TakeOk q) : TakeOk l := by
  intro w0 w m d n L M c F f h hf hcost
  have hc1 := cost_pos l
  have hMw := h.Mlt
  have hmw : m < w.heap.size := (Array.getElem?_eq_some_iff.1 h.st.mem.head).1
  have hdw : d < w.heap.size := (Array.getElem?_eq_some_iff.1 h.st.mem.body).1
  have hbw := h.st.below.size
  have HB := Lib.hid (Boxes.new w m M f l)
  have hg : w.grownBy ((w.alloc (.cells #[.pointer (some ⟨m, 0, none⟩), .map (some M)] 116)).alloc (.cells #[.int .i64 f, .int .i64 l] 120)) none := grown_trans (World.grownBy_alloc _ _ _) (World.grownBy_alloc _ _ _)
  have HG := Lib.hid hg
  have HT := Lib.hid (h.grow hg)
  have hfr := HT.out.st.mem
  have hokl : okI (l : Int) := ⟨by omega, by omega⟩
  have HI0 := Lib.hid (TakeI.mk (l := l) (f := f) (F0 := F) (HT.out.weak (c' := c + 0 * sub1 l) (by omega)) (Boxes.new w m M f l) (BrsOwn.nil _ _) (show Itms (itemL n L F l f) 0 [] from rfl) (grown_none HG.out) (fun _ _ => rfl) (by simp [nilS, Value.ownBlock]) (fun _ => rfl) hMw hmw hdw hbw)
  have HLK := Lib.hid (HT.out.map.look hf hokl)
  have hbx := HB.out.at
  have HF := Lib.hid (fun b hb => isFrame_any HT.out.st f b hb)
  obtain ⟨lv, hlv⟩ : ∃ lv : Int, (l : Int) = lv := ⟨_, rfl⟩
  have hlo : 0 ≤ lv := by omega
  have hhi : lv ≤ 2 := by omega
  have HLV := Lib.hid hlv
  have HOF := Lib.hid hf
  have HOL := Lib.hid hokl
  generalize hwb : (w.alloc (.cells #[.pointer (some ⟨m, 0, none⟩), .map (some M)] 116)).alloc (.cells #[.int .i64 f, .int .i64 l] 120) = wb at *
  obtain ⟨c20, c21, c30, c31⟩ := hbx
  clear h hg hfr
  rw [hlv] at c31 hwb HLK ⊢
  clear hlv
  by_cases hin : 0 ≤ f ∧ f < n
  · have HF1 := Lib.hid (HF.out true (by simpa using hin))
    clear HF
    obtain ⟨u, b, hrun, hb⟩ := HLK.out
    have hrun' : (Instr.lookup 114 (.map (some M)) (.agg #[.int .i64 f, .int .i64 lv]) true).run Try.prog wb = .ok (.tuple #[u, .bool b]) wb := hrun
    rcases hb with ⟨rfl, rfl⟩ | ⟨rfl, hQ⟩
    · have hIN := Lib.hid hin
      clear hrun HLK
      go_enter Try.func68, Try.ntmps68
      go_wp2_with fail
      refine HF1.out.mono ?_
      rintro e w' ⟨rfl, rfl⟩
      go_wp2_with fail
      clear c20 c21 c30 c31 hrun'
      go_loopw [5, 24] (fun vv iv wr => ∃ (k : Nat) (bs : List BrV) (FF : Gh), k ≤ 512 ∧ iv = .int .i64 k ∧ Hid (TakeI w0 w wr m d n L M (c + k * sub1 l) F FF l f k vv bs)) (fun _ iv _ => 512 - (intOf iv).toNat)
      case atStart => exact ⟨0, [], F, by omega, rfl, HI0⟩
      case round =>
        obtain ⟨k, bs, FF, hk, rfl, HI⟩ := hrel
        obtain ⟨c20, c21, c30, c31⟩ := HI.out.bx.at
        rw [HLV.out] at c31
        by_cases hlt : k < 512
        · obtain ⟨X, hX⟩ : ∃ X, wordI n L f k = X := ⟨_, rfl⟩
          have HRd := Lib.hid (fun (wx : World) (hs : St w0 wx m d n L) => read_ok hs f k X hX)
          by_cases hz : l = 0
          · have d0 : decide (lv > 0) = false := by have := HLV.out; simp; omega
            have e0 : (lv == 0) = true := by have := HLV.out; simp; omega
            have hit := item_zero n L FF l f k hz
            rw [hX] at hit
            have HK0 := kind_ok (flagOf X) (ppnOf X)
            clear hX hz
            by_cases hkd : kindOf (flagOf X) = 2
            · rw [if_pos hkd] at hit
              rw [hkd] at HK0
              have HIT := Lib.hid hit
              have HK := Lib.hid HK0
              clear hit HK0 hkd
              generalize flagOf X = A at *
              generalize ppnOf X = B at *
              go_wp2_with fail
              refine (HRd.out _ HI.out.tk.st).mono ?_
              rintro e w2 ⟨rfl, g2⟩
              have HI2 := Lib.hid (HI.out.grow g2)
              have HI3 := Lib.hid (HI2.out.grow (World.grownBy_alloc w2 (.cells #[.int .i64 k, .int .i64 A, .int .i64 B, .slice none 0 0] 123) none))
              have HY3 := Lib.hid (show BrB (w2.alloc (.cells #[.int .i64 k, .int .i64 A, .int .i64 B, .slice none 0 0] 123)) w2.heap.size k A B (.slice none 0 0) from heap_alloc_new w2 _)
              clear g2 c20 c21 c30 c31
              obtain ⟨c20, c21, c30, c31⟩ := HI3.out.bx.at
              rw [HLV.out] at c31
              obtain ⟨y0, y1, y2, y3⟩ := HY3.out.at
              go_wp2_with fail
              refine (HK.out _).mono ?_
              rintro e w4 ⟨rfl, h4⟩
              have HI4 := Lib.hid (HI3.out.grow (grown_of_below' h4))
              have HY4 := Lib.hid (HY3.out.grow (grown_of_below' h4))
              clear h4 c20 c21 c30 c31 y0 y1 y2 y3
              obtain ⟨c20, c21, c30, c31⟩ := HI4.out.bx.at
              rw [HLV.out] at c31
              obtain ⟨y0, y1, y2, y3⟩ := HY4.out.at
              have hln := itms_len HI4.out.its
              have hbs := HI4.out.grown.size
              go_wp2_with (at_builtin; refine wpList_br _ rfl _ _ rfl w.heap.size _ _ ⟨k, A, B, nilS⟩ (by rfl) HI4.out.own w4.heap.size _ (by rfl) rfl (by omega) hbs rfl ?_; intro g8 cap8 w8 hown8 hg8 hat8)
              clear hln hbs
              have HI5 := Lib.hid (TakeI.app (y := ⟨k, A, B, nilS⟩) HI4.out HIT.out hg8 hown8 hat8)
              clear hown8 hg8 hat8
              go_wp2_with fail
              go_roundw
              case rel => exact ⟨k + 1, bs ++ [⟨k, A, B, nilS⟩], FF, by omega, by go_num, Lib.hid (HI5.out.weak (by rw [Nat.succ_mul]; omega))⟩
              case measure => simp [intOf]; omega
            · rw [if_neg hkd] at hit
              have ek : (kindOf (flagOf X) == 2) = false := by simp [hkd]
              have HIT := Lib.hid hit
              have HK := Lib.hid HK0
              clear hit HK0 hkd
              generalize kindOf (flagOf X) = kd at *
              generalize flagOf X = A at *
              generalize ppnOf X = B at *
              go_wp2_with fail
              refine (HRd.out _ HI.out.tk.st).mono ?_
              rintro e w2 ⟨rfl, g2⟩
              have HI2 := Lib.hid (HI.out.grow g2)
              have HI3 := Lib.hid (HI2.out.grow (World.grownBy_alloc w2 (.cells #[.int .i64 k, .int .i64 A, .int .i64 B, .slice none 0 0] 123) none))
              have HY3 := Lib.hid (show BrB (w2.alloc (.cells #[.int .i64 k, .int .i64 A, .int .i64 B, .slice none 0 0] 123)) w2.heap.size k A B (.slice none 0 0) from heap_alloc_new w2 _)
              clear g2 c20 c21 c30 c31
              obtain ⟨c20, c21, c30, c31⟩ := HI3.out.bx.at
              rw [HLV.out] at c31
              obtain ⟨y0, y1, y2, y3⟩ := HY3.out.at
              go_wp2_with fail
              refine (HK.out _).mono ?_
              rintro e w4 ⟨rfl, h4⟩
              have HI4 := Lib.hid (HI3.out.grow (grown_of_below' h4))
              have HY4 := Lib.hid (HY3.out.grow (grown_of_below' h4))
              clear h4 c20 c21 c30 c31 y0 y1 y2 y3
              obtain ⟨c20, c21, c30, c31⟩ := HI4.out.bx.at
              rw [HLV.out] at c31
              obtain ⟨y0, y1, y2, y3⟩ := HY4.out.at
              have HI5 := Lib.hid (HI4.out.skip HIT.out)
              go_wp2_with fail
              go_roundw
              case rel => exact ⟨k + 1, bs, FF, by omega, by go_num, Lib.hid (HI5.out.weak (by rw [Nat.succ_mul]; omega))⟩
              case measure => simp [intOf]; omega
          · obtain ⟨q, rfl⟩ : ∃ q, l = q + 1 := ⟨l - 1, by omega⟩
            have d0 : decide (lv > 0) = true := by have := HLV.out; simp; omega
            have e0 : (lv == 0) = false := by have := HLV.out; simp; omega
            have el : lv - 1 = (q : Int) := by have := HLV.out; omega
            have HTk := IH q rfl
            clear hz
            have hnx : nx n L f k = if kindOf (flagOf X) = 1 ∧ 0 ≤ ppnOf X ∧ ppnOf X < n then some (ppnOf X) else none := by unfold nx; rw [hX]
            by_cases hld : kindOf (flagOf X) = 1 ∧ 0 ≤ ppnOf X ∧ ppnOf X < n
            · rw [if_pos hld] at hnx
              have HLd := Lib.hid (fun (wx : World) (hs : St w0 wx m d n L) => leads_any hs (flagOf X) (ppnOf X) true (by simpa using hld))
              have HNX := Lib.hid hnx
              have HNI := Lib.hid (fun (G : Gh) hs => item_nil n L G q f k _ hnx hs)
              have HNS := Lib.hid (fun (G : Gh) u hs hu => item_some n L G q f k _ u hnx hs hu)
              rw [hX] at HNS
              have hle := HI.out.tk.st.mem.le
              have hokB : okI (ppnOf X) := ⟨by omega, by omega⟩
              have hmul : (k + 1) * cost q ≤ 512 * cost q := Nat.mul_le_mul_right _ (by omega)
              have hsm : (k + 1) * cost q = k * cost q + cost q := Nat.succ_mul _ _
              have hcq : cost (q + 1) = 1 + 512 * cost q := rfl
              have hs1 : sub1 (q + 1) = cost q := rfl
              have HTk2 := Lib.hid (fun (wx : World) (ht : TakeW w0 wx m d n L M (c + k * sub1 (q + 1)) FF) => HTk w0 wx m d n L M (c + k * sub1 (q + 1)) FF (ppnOf X) ht hokB (by rw [hs1]; omega))
              have HCS := Lib.hid (show c + k * sub1 (q + 1) + cost q = c + (k + 1) * sub1 (q + 1) by rw [hs1]; omega)
              clear hX hld hnx hle hokB hmul hsm hcq hs1 HTk
              generalize flagOf X = A at *
              generalize ppnOf X = B at *
              go_wp2_with fail
              refine (HRd.out _ HI.out.tk.st).mono ?_
              rintro e w2 ⟨rfl, g2⟩
              have HI2 := Lib.hid (HI.out.grow g2)
              have HI3 := Lib.hid (HI2.out.grow (World.grownBy_alloc w2 (.cells #[.int .i64 k, .int .i64 A, .int .i64 B, .slice none 0 0] 123) none))
              have HY3 := Lib.hid (show BrB (w2.alloc (.cells #[.int .i64 k, .int .i64 A, .int .i64 B, .slice none 0 0] 123)) w2.heap.size k A B (.slice none 0 0) from heap_alloc_new w2 _)
              clear g2 c20 c21 c30 c31
              obtain ⟨c20, c21, c30, c31⟩ := HI3.out.bx.at
              rw [HLV.out] at c31
              obtain ⟨y0, y1, y2, y3⟩ := HY3.out.at
              go_wp2_with fail
              refine (HLd.out _ HI3.out.tk.st).mono ?_
              rintro e w4 ⟨rfl, h4⟩
              have HI4 := Lib.hid (HI3.out.grow h4)
              have HY4 := Lib.hid (HY3.out.grow h4)
              have hfr := HI2.out.fresh
              have hlt4 := HY4.out.lt
              clear h4 c20 c21 c30 c31 y0 y1 y2 y3
              obtain ⟨c20, c21, c30, c31⟩ := HI4.out.bx.at
              rw [HLV.out] at c31
              obtain ⟨y0, y1, y2, y3⟩ := HY4.out.at
              go_wp2_with fail
              with_reducible refine (HTk2.out _ HI4.out.tk).mono ?_
              rintro e w5 ⟨u, F5, rfl, ht5, hs5, g5, ho5⟩
              have hM5 := HI4.out.Mlt
              rw [HCS.out] at ht5
              have HI5 := Lib.hid (HI4.out.sub ht5 g5 ho5)
              have HY5 := Lib.hid (HY4.out.grow' g5 (by omega))
              have HF5 := Lib.hid (show F5 w2.heap.size = none from (ho5 _ hlt4).trans hfr.2.2)
              have HFR := Lib.hid hfr
              clear ht5 g5 ho5 hfr hlt4 c20 c21 c30 c31 y0 y1 y2 y3 hM5
              obtain ⟨bs5, hr5, hb5⟩ := (sub_eq _ _ _ _ _ _).1 hs5
              have hy5 := HY5.out.frozen
              have HI6 := Lib.hid (fun u' => HI5.out.grow' (grown_setAt w5 w2.heap.size 3 u') HFR.out.1 HFR.out.2.1 HF5.out)
              have HY6 := Lib.hid (fun u' => HY5.out.set u')
              rcases hr5 with ⟨_, rfl⟩ | ⟨b9, cap9, cells9, hne, rfl, _, _⟩
              · have HIT := Lib.hid (HNI.out F5 hs5)
                clear hs5 hb5
                obtain ⟨c20, c21, c30, c31⟩ := HI5.out.bx.at
                rw [HLV.out] at c31
                obtain ⟨y0, y1, y2, y3⟩ := HY5.out.at
                unfold nilS
                go_wp2_with fail
                have HI7 := Lib.hid ((HI6.out (.slice none 0 0)).skip HIT.out)
                go_roundw
                case rel => exact ⟨k + 1, bs, F5, by omega, by go_num, HI7⟩
                case measure => simp [intOf]; omega
              · have HIT := Lib.hid (HNS.out F5 _ hs5 (by unfold nilS; simp))
                clear hs5 hb5 hne
                obtain ⟨c20, c21, c30, c31⟩ := HI5.out.bx.at
                rw [HLV.out] at c31
                obtain ⟨y0, y1, y2, y3⟩ := HY5.out.at
                have hln := itms_len HI5.out.its
                have hbs := HI5.out.grown.size
                go_wp2_with (at_builtin; refine wpList_br _ rfl _ _ rfl w.heap.size _ _ ⟨k, A, B, .slice (some ⟨b9, 0, none⟩) bs5.length cap9⟩ (by rfl) (HI6.out _).own w5.heap.size _ (by rfl) (by simp) (by omega) hbs rfl ?_; intro g8 cap8 w8 hown8 hg8 hat8)
                have HI7 := Lib.hid (TakeI.app (y := ⟨k, A, B, .slice (some ⟨b9, 0, none⟩) bs5.length cap9⟩) (HI6.out _) HIT.out hg8 hown8 (hat8.imp_right fun e => by simpa using e))
                clear hown8 hg8 hat8 hln hbs
                go_wp2_with fail
                go_roundw
                case rel => exact ⟨k + 1, bs ++ [⟨k, A, B, .slice (some ⟨b9, 0, none⟩) bs5.length cap9⟩], F5, by omega, by go_num, HI7⟩
                case measure => simp [intOf]; omega
            · rw [if_neg hld] at hnx
              have HLd := Lib.hid (fun (wx : World) (hs : St w0 wx m d n L) => leads_any hs (flagOf X) (ppnOf X) false (by simpa using hld))
              have HIT := Lib.hid (item_none n L FF q f k hnx)
              clear hX hld hnx HTk
              generalize flagOf X = A at *
              generalize ppnOf X = B at *
              go_wp2_with fail
              refine (HRd.out _ HI.out.tk.st).mono ?_
              rintro e w2 ⟨rfl, g2⟩
              have HI2 := Lib.hid (HI.out.grow g2)
              have HI3 := Lib.hid (HI2.out.grow (World.grownBy_alloc w2 (.cells #[.int .i64 k, .int .i64 A, .int .i64 B, .slice none 0 0] 123) none))
              have HY3 := Lib.hid (show BrB (w2.alloc (.cells #[.int .i64 k, .int .i64 A, .int .i64 B, .slice none 0 0] 123)) w2.heap.size k A B (.slice none 0 0) from heap_alloc_new w2 _)
              clear g2 c20 c21 c30 c31
              obtain ⟨c20, c21, c30, c31⟩ := HI3.out.bx.at
              rw [HLV.out] at c31
              obtain ⟨y0, y1, y2, y3⟩ := HY3.out.at
              go_wp2_with fail
              refine (HLd.out _ HI3.out.tk.st).mono ?_
              rintro e w4 ⟨rfl, h4⟩
              have HI4 := Lib.hid (HI3.out.grow h4)
              have HY4 := Lib.hid (HY3.out.grow h4)
              clear h4 c20 c21 c30 c31 y0 y1 y2 y3
              obtain ⟨c20, c21, c30, c31⟩ := HI4.out.bx.at
              rw [HLV.out] at c31
              obtain ⟨y0, y1, y2, y3⟩ := HY4.out.at
              have HI5 := Lib.hid (HI4.out.skip HIT.out)
              go_wp2_with fail
              go_roundw
              case rel => exact ⟨k + 1, bs, FF, by omega, by go_num, Lib.hid (HI5.out.weak (by rw [Nat.succ_mul]; omega))⟩
              case measure => simp [intOf]; omega
        · obtain rfl : k = 512 := by omega
          have HN := Lib.hid hlt
          obtain ⟨sa, sc, hv⟩ := HI.out.own.form
          have hS : Sub n L (addG FF wr u5) l f u5 := (sub_eq _ _ _ _ _ _).2 ⟨bs, HI.out.own.rowG HI.out.nil FF, by rw [if_pos hIN.out]; exact HI.out.its.mono fun k xs hx => hx.mono (addG_ext HI.out.row)⟩
          have hTk := HI.out.tk.add HI.out.own HI.out.row
          have hext : ∀ b, b < w.heap.size → addG FF wr u5 b = F b := fun b hb => by
            unfold addG
            rw [if_neg (fun e => by have := (HI.out.own.lt e).1; omega)]
            exact HI.out.old b hb
          have hc2 := cost_eq l
          obtain ⟨w9, hrun9, hm9, ht9⟩ := hTk.map.put (by omega) (f := f) (l := (l : Int)) HOF.out HOL.out ⟨l, rfl, hS⟩
          have g9 := ht9.grown
          have HT9 := Lib.hid (show TakeW w0 w9 m d n L M (c + cost l) (addG FF wr u5) from
            ⟨hTk.st.grow' g9 hTk.mge hTk.Mm hTk.Md, hm9.mono (by omega) fun _ _ _ h => h, fun b o hb => ⟨(g9.block b (hTk.stands.lt hb) (fun e => by have h1 := hTk.MF; rw [← Option.some.inj e, hb] at h1; cases h1)).trans (hTk.stands b o hb).1, (hTk.stands b o hb).2⟩, hTk.mge⟩)
          have HS := Lib.hid hS
          have HX := Lib.hid hext
          have HG9 := Lib.hid (grown_trans HI.out.grown g9)
          rw [HLV.out] at hrun9
          subst hv
          have hrun9' : (Instr.mapUpdate 114 (.map (some M)) (.agg #[.int .i64 f, .int .i64 lv]) (.slice sa bs.length sc)).run Try.prog wr = .ok () w9 := hrun9
          clear hS hTk hext hc2 hrun9 hm9 ht9 g9
          go_wp2_with fail
          go_ret
          exact ⟨_, _, rfl, HT9.out, HS.out, HG9.out, HX.out⟩
    · have HQ := Lib.hid hQ
      clear hQ hrun HLK
      go_enter Try.func68, Try.ntmps68
      go_wp2_with fail
      refine HF1.out.mono ?_
      rintro e w' ⟨rfl, rfl⟩
      go_wp2_with fail
      go_ret
      obtain ⟨q, hq, hs⟩ := HQ.out
      obtain rfl : l = q := by have := HLV.out; omega
      exact ⟨u, F, rfl, HT.out.weak (by omega), hs, grown_none HG.out, fun _ _ => rfl⟩
  · have HF1 := Lib.hid (HF.out false (by simpa using hin))
    clear HF
    have HN := Lib.hid (show Sub n L F l f nilS from (sub_eq n L F l f nilS).2 ⟨[], .inl ⟨rfl, rfl⟩, by rw [if_neg hin]⟩)
    clear hin
    go_enter Try.func68, Try.ntmps68
    go_wp2_with fail
    refine HF1.out.mono ?_
    rintro e w' ⟨rfl, rfl⟩
    go_wp2_with fail
    go_ret
    exact ⟨nilS, F, rfl, HT.out.weak (by omega), HN.out, grown_none HG.out, fun _ _ => rfl⟩
end Go.Proofs.Ytlieommbomjdaaa
