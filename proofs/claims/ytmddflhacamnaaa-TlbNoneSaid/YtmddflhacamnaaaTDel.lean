/- Package tlb's drop while it goes on: what the map holds, what the row holds; the closure that strikes; slices.IndexFunc over it. -/
import Derived.Test.YtmddflhacamnaaaTTab
import Derived.Laws.StructEq
import Derived.Shelf.Abstract
namespace Go.Proofs.Ytmddflhacamnaaa
open Go.ChangeShapes Go.WideShapes Go.ChangeAt Go.RowKit Go.Deep
set_option linter.unusedVariables false

/-- What the map holds when the first j keys have been looked at. -/
def cont (q : KeptV → Bool) (xs : List KeptV) (j : Nat) : List KeptV := dropK q (xs.take j) ++ xs.drop j
theorem cont_zero (q : KeptV → Bool) (xs : List KeptV) : cont q xs 0 = xs := by simp [cont, dropK]
theorem cont_all (q : KeptV → Bool) (xs : List KeptV) {n : Nat} (h : n = xs.length) : cont q xs n = dropK q xs := by subst h; simp [cont]
theorem dropK_take (q : KeptV → Bool) {xs : List KeptV} {j : Nat} {x : KeptV} (h : xs[j]? = some x) : dropK q (xs.take (j + 1)) = dropK q (xs.take j) ++ (if q x then [] else [x]) := by
  rw [take_at h]
  unfold dropK
  rw [List.filter_append]
  cases hq : q x <;> simp [hq]
theorem dropK_none {q : KeptV → Bool} {xs : List KeptV} (h : ∀ x, x ∈ xs → q x = false) : dropK q xs = xs := by
  unfold dropK
  exact List.filter_eq_self.2 fun x hx => by rw [h x hx]; rfl
theorem cont_ok {q : KeptV → Bool} {xs : List KeptV} {j : Nat} (h : ∀ x, x ∈ xs → okKey x) : ∀ x, x ∈ cont q xs j → okKey x := by
  intro x hx
  rcases List.mem_append.1 hx with hx | hx
  · exact h x (List.mem_of_mem_take (List.mem_filter.1 hx).1)
  · exact h x (List.mem_of_mem_drop hx)
theorem cont_len {q : KeptV → Bool} (xs : List KeptV) (j : Nat) : (cont q xs j).length ≤ xs.length := by
  have := List.length_filter_le (fun x => !q x) (xs.take j)
  unfold cont dropK
  rw [List.length_append, List.length_drop]
  rw [List.length_take] at this
  omega
theorem cont_step {q : KeptV → Bool} {xs : List KeptV} (hk : Keys xs) {j : Nat} {x : KeptV} (h : xs[j]? = some x) : (if q x then dropK (sameK x.a x.v) (cont q xs j) else cont q xs j) = cont q xs (j + 1) := by
  have e := drop_at h
  unfold cont
  rw [dropK_take q h, e]
  cases hq : q x with
  | false => simp
  | true =>
    simp only [if_pos, List.append_nil]
    unfold dropK
    rw [List.filter_append, List.filter_cons_of_neg (by simp [sameK])]
    have hap := hk.apart
    rw [← List.take_append_drop j xs, e, List.pairwise_append, List.pairwise_cons] at hap
    obtain ⟨h1, ⟨h2, h3⟩, h4⟩ := hap
    congr 1
    · refine List.filter_eq_self.2 fun y hy => ?_
      have hm := (List.mem_filter.1 hy).1
      cases hc : sameK x.a x.v y with
      | false => rfl
      | true => exact absurd (sameK_iff.1 hc) (h4 y hm x List.mem_cons_self)
    · refine List.filter_eq_self.2 fun y hy => ?_
      cases hc : sameK x.a x.v y with
      | false => rfl
      | true =>
        have := sameK_iff.1 hc
        exact absurd ⟨this.1.symm, this.2.symm⟩ (h2 y hy)

/-- A drop that goes on: the table's cells, its map, the boxes that the closure has captured, and (xb) what the caller's own closure has. -/
structure DS (p M : Nat) (sz : Int) (v : Value) (b2 b3 : Nat) (fv : Value) (xb : Option (Nat × Obj)) (W : World) (ys : List KeptV) : Prop where
  block : W.heap[p]? = some (.cells #[.int .i64 sz, .map (some M), v] 57 (0, 0))
  map : MapT W M ys
  ok : ∀ x, x ∈ ys → okKey x
  bp : W.heap[b2]? = some (.cells #[.pointer (some ⟨p, 0, none⟩)] 23 (0, 0))
  bf : W.heap[b3]? = some (.cells #[fv] 37 (0, 0))
  x : ∀ b o, xb = some (b, o) → W.heap[b]? = some o

section
variable {p M : Nat} {sz : Int} {v : Value} {b2 b3 : Nat} {fv : Value} {xb : Option (Nat × Obj)} {W W' : World} {ys : List KeptV}
theorem DS.kept (h : DS p M sz v b2 b3 fv xb W ys) (hp : ∀ b, b = p ∨ b = M ∨ b = b2 ∨ b = b3 ∨ (∃ o, xb = some (b, o)) → b < W.heap.size → W'.heap[b]? = W.heap[b]?) : DS p M sz v b2 b3 fv xb W' ys := by
  have lt : ∀ {b : Nat} {o : Obj}, W.heap[b]? = some o → b < W.heap.size := fun hb => (Array.getElem?_eq_some_iff.1 hb).1
  exact ⟨(hp p (by simp) (lt h.block)).trans h.block, h.map.kept (hp M (by simp) h.map.lt), h.ok, (hp b2 (by simp) (lt h.bp)).trans h.bp, (hp b3 (by simp) (lt h.bf)).trans h.bf, fun b o e => (hp b (by simp [e]) (lt (h.x b o e))).trans (h.x b o e)⟩
theorem DS.grow (h : DS p M sz v b2 b3 fv xb W ys) (g : W.grownBy W' none) : DS p M sz v b2 b3 fv xb W' ys := h.kept fun b _ hb => g.block b hb (by simp)
theorem DS.at (h : DS p M sz v b2 b3 fv xb W ys) : W.cell? ⟨b2, 0, none⟩ = some (.pointer (some ⟨p, 0, none⟩)) ∧ W.cell? ⟨b3, 0, none⟩ = some fv ∧ W.cell? ⟨p, 1, none⟩ = some (.map (some M)) ∧ W.cell? ⟨p, 2, none⟩ = some v :=
  ⟨by rw [cell_of_row _ _ _ _ _ _ h.bp]; rfl, by rw [cell_of_row _ _ _ _ _ _ h.bf]; rfl, by rw [cell_of_row _ _ _ _ _ _ h.block]; rfl, by rw [cell_of_row _ _ _ _ _ _ h.block]; rfl⟩
/-- One key is struck from the map. -/
theorem DS.struck (h : DS p M sz v b2 b3 fv xb W ys) {zs : List KeptV} (hx : ∀ o, xb = some (M, o) → ∃ cs t f, o = .cells cs t f) (hm : MapT W' M zs) (g : W.grownBy W' (some M)) (hz : ∀ x, x ∈ zs → okKey x) : DS p M sz v b2 b3 fv xb W' zs := by
  have nc : ∀ {b : Nat} {cs : Array Value} {t : TypeId} {f : Nat × Nat}, W.heap[b]? = some (.cells cs t f) → W'.heap[b]? = W.heap[b]? := fun hb => g.block _ (Array.getElem?_eq_some_iff.1 hb).1 (fun e => h.map.ne_cells hb (Option.some.inj e).symm)
  refine ⟨(nc h.block).trans h.block, hm, hz, (nc h.bp).trans h.bp, (nc h.bf).trans h.bf, fun b o e => ?_⟩
  have hb := h.x b o e
  refine (g.block b (Array.getElem?_eq_some_iff.1 hb).1 (fun e2 => ?_)).trans hb
  obtain rfl := Option.some.inj e2
  obtain ⟨cs, t, f, rfl⟩ := hx o e
  exact h.map.ne_cells hb rfl
end

/-- The closure that is handed to the library, by what its caller's own closure answers. -/
theorem strike_walk (g : Nat) (cap : Array Value) {p M : Nat} {sz : Int} {v : Value} {b2 b3 : Nat} {xb : Option (Nat × Obj)} {W : World} {ys : List KeptV} (q : KeptV → Bool)
    (hx : ∀ o, xb = some (M, o) → ∃ cs t f, o = .cells cs t f)
    (hq : ∀ W ys (x : KeptV), DS p M sz v b2 b3 (.func (.func g) #[] cap) xb W ys → okKey x → Calls Try.prog g (#[.agg #[.int .i64 x.a, .int .i64 x.v]] ++ cap) W fun e W' => e = .returned (.bool (q x)) ∧ W.grownBy W' none)
    (eg : ∀ args w, (callFunc g args).run Try.prog w = .ok (.enter g args) w)
    (h : DS p M sz v b2 b3 (.func (.func g) #[] cap) xb W ys) (x : KeptV) (hk : okKey x) :
    Calls Try.prog 32 #[.agg #[.int .i64 x.a, .int .i64 x.v], .pointer (some ⟨b3, 0, none⟩), .pointer (some ⟨b2, 0, none⟩)] W fun e W' => e = .returned (.bool (q x)) ∧ DS p M sz v b2 b3 (.func (.func g) #[] cap) xb W' (if q x then dropK (sameK x.a x.v) ys else ys) ∧ Turn [M] W W' := by
  have ga := World.grownBy_alloc W (.cells #[.int .i64 x.a, .int .i64 x.v] 29 (0, 0)) none
  have hbk := TwoB.new W 29 (.int .i64 x.a) (.int .i64 x.v)
  have hA := h.grow ga
  obtain ⟨xa, xv, xf, xp⟩ := x
  simp only at *
  have HC := Lib.hid (hq _ ys ⟨xa, xv, xf, xp⟩ hA hk)
  clear hq h
  generalize hWA : W.alloc (.cells #[.int .i64 xa, .int .i64 xv] 29 (0, 0)) = WA at *
  obtain ⟨c0, c1, c2, c3⟩ := hA.at
  obtain ⟨k0, k1⟩ := hbk.at
  have HA := Lib.hid hA
  have HBK := Lib.hid hbk
  have HGA := Lib.hid ga
  have hqb : ∃ b, q ⟨xa, xv, xf, xp⟩ = b := ⟨_, rfl⟩
  obtain ⟨b, hb⟩ := hqb
  rw [hb] at HC ⊢
  have HX := Lib.hid hx
  clear hA hbk ga hb hx
  cases b with
  | false =>
    go_enter Try.func32, Try.ntmps32
    go_wp2_with (go_at_fn g; refine HC.out.mono ?_; rintro e W2 ⟨rfl, g2⟩)
    go_ret
    exact ⟨rfl, by simpa using HA.out.grow g2, Turn.grown (grown_trans HGA.out g2)⟩
  | true =>
    go_enter Try.func32, Try.ntmps32
    go_wp2_with (go_at_fn g; refine HC.out.mono ?_; rintro e W2 ⟨rfl, g2⟩)
    have H2 := (HA.out.grow g2).grow (grown_drew1 W2)
    have K2 := (HBK.out.grow g2).grow (grown_drew1 W2)
    have G2 := grown_trans (grown_trans HGA.out g2) (grown_drew1 W2)
    obtain ⟨W3, hrun0, hm3, ht3⟩ := H2.map.strike H2.ok hk.1 hk.2 0
    have hrun : ∀ ty, (Builtin.delete_ #[55, 29] ty #[.map (some M), .agg #[.int .i64 xa, .int .i64 xv]]).run Try.prog W2.drew = .ok (.tuple #[]) W3 := fun _ => hrun0
    have H3 := H2.struck HX.out hm3 ht3.grown (fun x hx => H2.ok x (List.mem_filter.1 hx).1)
    have K3 := K2.grow' ht3.grown (fun e => by obtain ⟨es, cl, hb⟩ := H2.map.isMap; rw [e, K2] at hb; cases hb)
    have s2 := Lib.hid (show (W2.drew.cell? ⟨b2, 0, none⟩ = some (.pointer (some ⟨p, 0, none⟩)) ∧ W2.drew.cell? ⟨p, 1, none⟩ = some (.map (some M))) ∧ W2.drew.cell? ⟨W.heap.size, 0, none⟩ = some (.int .i64 xa) ∧ W2.drew.cell? ⟨W.heap.size, 1, none⟩ = some (.int .i64 xv) from ⟨⟨H2.at.1, H2.at.2.2.1⟩, K2.at⟩)
    have s3 := Lib.hid (show (W3.cell? ⟨b2, 0, none⟩ = some (.pointer (some ⟨p, 0, none⟩)) ∧ W3.cell? ⟨p, 1, none⟩ = some (.map (some M))) ∧ W3.cell? ⟨W.heap.size, 0, none⟩ = some (.int .i64 xa) ∧ W3.cell? ⟨W.heap.size, 1, none⟩ = some (.int .i64 xv) from ⟨⟨H3.at.1, H3.at.2.2.1⟩, K3.at⟩)
    have HD := Lib.hid H3
    have HT := Lib.hid (show Turn [M] W W3 from (Turn.grown G2).trans' (Turn.one ht3.grown (by simp)))
    clear H2 K2 G2 hm3 ht3 H3 K3 hrun0 g2
    go_region_held3 (fun W' => (W'.cell? ⟨b2, 0, none⟩ = some (.pointer (some ⟨p, 0, none⟩)) ∧ W'.cell? ⟨p, 1, none⟩ = some (.map (some M))) ∧ W'.cell? ⟨W.heap.size, 0, none⟩ = some (.int .i64 xa) ∧ W'.cell? ⟨W.heap.size, 1, none⟩ = some (.int .i64 xv))
      (first | exact s2.out | exact s3.out) (fail)
    all_goals
      go_wp2_with fail
      go_ret
      exact ⟨rfl, by simpa using HD.out, HT.out⟩
end Go.Proofs.Ytmddflhacamnaaa
