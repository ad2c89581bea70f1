/- Package pmap: a space with its memory and its pool; takeTable, New. Package pmap: New. -/
import Derived.Test.YtlieommbomjdaaaQB2
namespace Go.Proofs.Ytlieommbomjdaaa
open Go.ChangeShapes Go.WideShapes Go.ChangeAt Go.RowKit Go.Deep
set_option linter.unusedVariables false

/-- A space, its memory's bytes, its pool's frames. -/
structure QX (w0 w : World) (m d n p : Nat) (O : List Nat) (x : Nat) (a r : Int) (M : List UInt8) (xs : List FrV) : Prop where
  st : St w0 w m d n M
  pool : PP w p 0 xs O
  sp : SpB w x m p a r
  num : xs.length = n
  oge : ∀ b, b ∈ O → w0.heap.size ≤ b
  apart : ∀ b, b ∈ O → b ∉ [m, d]
  xge : w0.heap.size ≤ x
  xn : x ∉ m :: d :: O
/-- .. behind a call. -/
def QXL (w0 w w' : World) (m d n p : Nat) (O : List Nat) (x : Nat) (a r : Int) (M : List UInt8) (xs : List FrV) : Prop :=
  ∃ O', QX w0 w' m d n p O' x a r M xs ∧ Turn (d :: O) w w' ∧ ∀ b, b ∈ O' → b ∈ O ∨ w.heap.size ≤ b

section
variable {w0 w w' w2 : World} {m d n p x : Nat} {O O2 : List Nat} {a r : Int} {M M' : List UInt8} {xs zs : List FrV}
theorem QX.lt (h : QX w0 w m d n p O x a r M xs) : ∀ b, b ∈ x :: m :: d :: O → b < w.heap.size := by
  intro b hb
  simp only [List.mem_cons] at hb
  rcases hb with rfl | rfl | rfl | hb
  · exact h.sp.lt
  · exact h.st.mlt
  · exact h.st.dlt
  · exact PP.lt h.pool b hb
theorem QX.below (h : QX w0 w m d n p O x a r M xs) : Below w0.heap.size w0 w := h.st.below
theorem QX.turn (h : QX w0 w m d n p O x a r M xs) (g : Turn O2 w w') (ho : ∀ b, b ∈ x :: m :: d :: O → b ∉ O2) (h0 : ∀ b, b ∈ O2 → w0.heap.size ≤ b) : QX w0 w' m d n p O x a r M xs := by
  have hb : ∀ b, b ∈ x :: m :: d :: O → w'.heap[b]? = w.heap[b]? := fun b hb => g.block b (h.lt b hb) (ho b hb)
  exact ⟨⟨⟨(hb m (by simp)).trans h.st.mem.head, (hb d (by simp)).trans h.st.mem.body, h.st.mem.len, h.st.mem.ne, h.st.mem.pos, h.st.mem.le⟩, g.low h.below h0, h.st.dge, h.st.mge⟩, PP.kept h.pool fun b hm => hb b (by simp [hm]), h.sp.kept (hb x (by simp)), h.num, h.oge, h.apart, h.xge, h.xn⟩
theorem QX.grow (h : QX w0 w m d n p O x a r M xs) (g : w.grownBy w' none) : QX w0 w' m d n p O x a r M xs := h.turn (O2 := []) (Turn.grown g) (fun _ _ hm => by cases hm) (fun _ hm => by cases hm)
theorem QX.dn (h : QX w0 w m d n p O x a r M xs) : d ∉ O := fun hm => h.apart d hm (by simp)
theorem QX.mem (h : QX w0 w m d n p O x a r M xs) (hs : St w0 w' m d n M') (g : w.grownBy w' (some d)) : QXL w0 w w' m d n p O x a r M' xs := by
  have hb : ∀ b, b ∈ x :: O → w'.heap[b]? = w.heap[b]? := fun b hb => g.block b (h.lt b (by simp only [List.mem_cons] at hb ⊢; rcases hb with hb | hb <;> simp [hb])) fun e => by
    injection e with e
    subst e
    rcases List.mem_cons.1 hb with rfl | hb
    · exact h.xn (by simp)
    · exact h.dn hb
  exact ⟨O, ⟨hs, PP.kept h.pool fun b hm => hb b (by simp [hm]), h.sp.kept (hb x (by simp)), h.num, h.oge, h.apart, h.xge, h.xn⟩, Turn.one g (by simp), fun b hb => .inl hb⟩
theorem QX.pool' (h : QX w0 w m d n p O x a r M xs) (hf : FLeft PP w w' p 0 O zs) (hz : zs.length = n) : QXL w0 w w' m d n p O x a r M zs := by
  obtain ⟨O', h1, h2, h3⟩ := hf
  have hb : ∀ b, b ∈ x :: m :: d :: [] → w'.heap[b]? = w.heap[b]? := fun b hb => h2.block b (h.lt b (by simp only [List.mem_cons, List.not_mem_nil, or_false] at hb ⊢; rcases hb with hb | hb | hb <;> simp [hb])) fun hm => by
    simp only [List.mem_cons, List.not_mem_nil, or_false] at hb
    rcases hb with rfl | rfl | rfl
    · exact h.xn (by simp [hm])
    · exact h.apart _ hm (by simp)
    · exact h.apart _ hm (by simp)
  have hge : ∀ b, b ∈ O' → w0.heap.size ≤ b := fun b hm => by
    rcases h3 b hm with k | k
    · exact h.oge b k
    · exact Nat.le_trans h.below.size k
  have hn : ∀ b, b ∈ O' → b ∉ x :: m :: d :: [] := fun b hm hx => by
    rcases h3 b hm with k | k
    · simp only [List.mem_cons, List.not_mem_nil, or_false] at hx
      rcases hx with rfl | hx
      · exact h.xn (by simp [k])
      · exact h.apart b k (by simpa using hx)
    · have := h.lt b (by simp only [List.mem_cons, List.not_mem_nil, or_false] at hx ⊢; rcases hx with hx | hx | hx <;> simp [hx])
      omega
  exact ⟨O', ⟨⟨⟨(hb m (by simp)).trans h.st.mem.head, (hb d (by simp)).trans h.st.mem.body, h.st.mem.len, h.st.mem.ne, h.st.mem.pos, h.st.mem.le⟩, h2.low h.below h.oge, h.st.dge, h.st.mge⟩, h1, h.sp.kept (hb x (by simp)), hz, hge, fun b hm hx => hn b hm (by simp only [List.mem_cons, List.not_mem_nil, or_false] at hx ⊢; rcases hx with hx | hx <;> simp [hx]), h.xge, fun hx => by
    simp only [List.mem_cons] at hx
    rcases hx with hx | hx | hx
    · exact h.xn (by simp [hx])
    · exact h.xn (by simp [hx])
    · exact hn x hx (by simp)⟩, h2.mono fun b hb => by simp [hb], h3⟩
theorem QX.stay (h : QX w0 w m d n p O x a r M xs) : QXL w0 w w m d n p O x a r M xs := ⟨O, h, Turn.refl _ _, fun b hb => .inl hb⟩
theorem QX.stay' (h : QX w0 w m d n p O x a r M xs) (g : w.grownBy w' none) : QXL w0 w w' m d n p O x a r M xs := ⟨O, h.grow g, Turn.grown g, fun b hb => .inl hb⟩
theorem QXL.size (h : QXL w0 w w' m d n p O x a r M xs) : w.heap.size ≤ w'.heap.size := by
  obtain ⟨_, _, g, _⟩ := h
  exact g.size
/-- One call, and another one behind it. -/
theorem QXL.trans {M1 M2 : List UInt8} {x1 x2 : List FrV} (h : QXL w0 w w' m d n p O x a r M1 x1) (k : ∀ O', QX w0 w' m d n p O' x a r M1 x1 → QXL w0 w' w2 m d n p O' x a r M2 x2) : QXL w0 w w2 m d n p O x a r M2 x2 := by
  obtain ⟨O', h1, h2, h3⟩ := h
  obtain ⟨O'', k1, k2, k3⟩ := k O' h1
  refine ⟨O'', k1, h2.trans k2 fun b hb => ?_, fun b hb => ?_⟩
  · rcases List.mem_cons.1 hb with rfl | hb
    · exact .inl (by simp)
    · rcases h3 b hb with e | e
      · exact .inl (by simp [e])
      · exact .inr e
  · rcases k3 b hb with e | e
    · exact h3 b e
    · exact .inr (Nat.le_trans h2.size e)
theorem QXL.grow (h : QXL w0 w w' m d n p O x a r M xs) (g : w'.grownBy w2 none) : QXL w0 w w2 m d n p O x a r M xs := h.trans fun O' k => k.stay' g
/-- What is new since w is left alone. -/
theorem QXL.far (h : QXL w0 w w' m d n p O x a r M xs) (hx : QX w0 w m d n p O x a r M' zs) {b : Nat} (hb : b < w.heap.size) (hn : b ∉ d :: O) : w'.heap[b]? = w.heap[b]? := by
  obtain ⟨_, _, g, _⟩ := h
  exact g.block b hb hn

theorem pp_take (h : PP w p 0 xs O) (cl ow ix : Int) (ho : okI ow) (hi : okI ix) :
    Calls Try.prog 58 #[.pointer (some ⟨p, 0, none⟩), .int .i64 cl, .int .i64 ow, .int .i64 ix] w fun e w' => e = .returned (.tuple #[.int .i64 (takeF 0 xs cl ow ix).n, .int .i64 (takeF 0 xs cl ow ix).e]) ∧ FLeft PP w w' p 0 O (takeF 0 xs cl ow ix).xs := by
  obtain ⟨g, c, rfl, h⟩ := h
  exact fr_take h cl ow ix ho hi
theorem pp_give (h : PP w p 0 xs O) (fr : Int) :
    Calls Try.prog 44 #[.pointer (some ⟨p, 0, none⟩), .int .i64 fr] w fun e w' => e = .returned (.int .i64 (giveF xs fr).e) ∧ FLeft PP w w' p 0 O (giveF xs fr).xs := by
  obtain ⟨g, c, rfl, h⟩ := h
  exact fr_give h fr

set_option maxHeartbeats 2000000 in
theorem sp_take (h : QX w0 w m d n p O x a r M xs) (ha : okI a) (l : Int) (hl : okI l) (k e : Int) (hk : takeF 0 xs 1 a l = ⟨k, e, zs⟩) (hz : zs.length = n) (he : e = 0 → 0 ≤ k ∧ k < n) :
    Calls Try.prog 31 #[.pointer (some ⟨x, 0, none⟩), .int .i64 l] w fun e' w' => e' = .returned (.tuple #[.int .i64 k, .int .i64 e]) ∧ QXL w0 w w' m d n p O x a r M zs := by
  have hD := h.grow (grown_drew1 w)
  have hT := pp_take hD.pool 1 a l ha hl
  rw [hk] at hT
  have HT := Lib.hid hT
  have hc : w.drew.cell? ⟨x, 1, none⟩ = some (.pointer (some ⟨p, 0, none⟩)) ∧ w.drew.cell? ⟨x, 2, none⟩ = some (.int .i64 a) := ⟨hD.sp.at.2.1, hD.sp.at.2.2.1⟩
  have HD := Lib.hid hD
  have HZ := Lib.hid hz
  clear h hD hT hk
  go_enter Try.func31, Try.ntmps31
  go_wp2_with fail
  go_region_held3 (fun W => W.cell? ⟨x, 1, none⟩ = some (.pointer (some ⟨p, 0, none⟩)) ∧ W.cell? ⟨x, 2, none⟩ = some (.int .i64 a)) (with_reducible exact hc)
    (first
      | (go_at_call 58; (with_reducible refine (HT.out.mono ?_)); rintro e' w2 ⟨rfl, g2⟩; have hQ := HD.out.pool' g2 HZ.out; obtain ⟨O2, h2, k2, k3⟩ := hQ; replace hc : w2.cell? ⟨x, 1, none⟩ = some (.pointer (some ⟨p, 0, none⟩)) ∧ w2.cell? ⟨x, 2, none⟩ = some (.int .i64 a) := ⟨h2.sp.at.2.1, h2.sp.at.2.2.1⟩; have HQ := Lib.hid (show QXL w0 w w2 m d n p O x a r M zs from ⟨O2, h2, (Turn.grown (grown_drew1 w)).trans' k2, k3⟩); have H2 := Lib.hid h2; clear h2 k2 k3 g2))
  all_goals
    by_cases h0 : e = 0
    · subst h0
      have HF := Lib.hid (sp_isFrame H2.out.sp H2.out.st k true (decide_eq_true (he rfl)))
      go_wp2_with fail
      refine HF.out.mono ?_
      rintro e' w3 ⟨rfl, e3⟩
      subst w3
      go_wp2_with fail
      go_ret2
      exact ⟨rfl, HQ.out⟩
    · have b0 : (e == 0) = false := by simpa using h0
      clear he
      go_wp2_with fail
      go_ret2
      exact ⟨rfl, HQ.out⟩
end
end Go.Proofs.Ytlieommbomjdaaa

namespace Go.Proofs.Ytlieommbomjdaaa
open Go.ChangeShapes Go.WideShapes Go.ChangeAt Go.RowKit Go.Deep
set_option linter.unusedVariables false

/-- A memory and its pool. -/
structure QM (w0 w : World) (m d n p : Nat) (O : List Nat) (M : List UInt8) (xs : List FrV) : Prop where
  st : St w0 w m d n M
  pool : PP w p 0 xs O
  num : xs.length = n
  oge : ∀ b, b ∈ O → w0.heap.size ≤ b
  apart : ∀ b, b ∈ O → b ∉ [m, d]
def QML (w0 w w' : World) (m d n p : Nat) (O : List Nat) (M : List UInt8) (xs : List FrV) : Prop := ∃ O', QM w0 w' m d n p O' M xs ∧ Turn (d :: O) w w' ∧ ∀ b, b ∈ O' → b ∈ O ∨ w.heap.size ≤ b

section
variable {w0 w w' w2 : World} {m d n p x : Nat} {O O2 : List Nat} {a r : Int} {M M' : List UInt8} {xs zs : List FrV}
theorem QX.qm (h : QX w0 w m d n p O x a r M xs) : QM w0 w m d n p O M xs := ⟨h.st, h.pool, h.num, h.oge, h.apart⟩
theorem QXL.qml (h : QXL w0 w w' m d n p O x a r M xs) : QML w0 w w' m d n p O M xs := by
  obtain ⟨O', h1, h2⟩ := h
  exact ⟨O', h1.qm, h2⟩
theorem QM.lt (h : QM w0 w m d n p O M xs) : ∀ b, b ∈ m :: d :: O → b < w.heap.size := by
  intro b hb
  simp only [List.mem_cons] at hb
  rcases hb with rfl | rfl | hb
  · exact h.st.mlt
  · exact h.st.dlt
  · exact PP.lt h.pool b hb
theorem QM.grow (h : QM w0 w m d n p O M xs) (g : w.grownBy w' none) : QM w0 w' m d n p O M xs :=
  ⟨h.st.grow g, PP.kept h.pool fun b hb => g.block b (h.lt b (by simp [hb])) (by simp), h.num, h.oge, h.apart⟩
theorem QM.dn (h : QM w0 w m d n p O M xs) : d ∉ O := fun hm => h.apart d hm (by simp)
/-- .. with a space that was made since. -/
theorem QM.box (h : QM w0 w m d n p O M xs) (a r : Int) : QX w0 (w.alloc (.cells #[.pointer (some ⟨m, 0, none⟩), .pointer (some ⟨p, 0, none⟩), .int .i64 a, .int .i64 r] 62)) m d n p O w.heap.size a r M xs := by
  have k := h.grow (World.grownBy_alloc w (.cells #[.pointer (some ⟨m, 0, none⟩), .pointer (some ⟨p, 0, none⟩), .int .i64 a, .int .i64 r] 62) none)
  exact ⟨k.st, k.pool, heap_alloc_new w _, k.num, k.oge, k.apart, h.st.below.size, fun hm => by have := h.lt _ hm; omega⟩
theorem QXL.since {x : Nat} {wA : World} (g : w.grownBy wA none) (h : QXL w0 wA w' m d n p O x a r M xs) : QXL w0 w w' m d n p O x a r M xs := by
  obtain ⟨O', h1, h2, h3⟩ := h
  exact ⟨O', h1, (Turn.grown g).trans' h2, fun b hb => by
    rcases h3 b hb with k | k
    · exact .inl k
    · exact .inr (Nat.le_trans g.size k)⟩

theorem QXL.next {O' : List Nat} (t : Turn (d :: O) w w') (f : ∀ b, b ∈ O' → b ∈ O ∨ w.heap.size ≤ b) (k : QXL w0 w' w2 m d n p O' x a r M xs) : QXL w0 w w2 m d n p O x a r M xs := by
  obtain ⟨O'', k1, k2, k3⟩ := k
  refine ⟨O'', k1, t.trans k2 fun b hb => ?_, fun b hb => ?_⟩
  · rcases List.mem_cons.1 hb with rfl | hb
    · exact .inl (by simp)
    · rcases f b hb with e | e
      · exact .inl (by simp [e])
      · exact .inr e
  · rcases k3 b hb with e | e
    · exact f b e
    · exact .inr (Nat.le_trans t.size e)
theorem QX.setRoot (h : QX w0 w m d n p O x a r M xs) (r' : Int) : QX w0 (w.setCell ⟨x, 3, none⟩ (.int .i64 r')) m d n p O x a r' M xs := by
  have hne : ∀ b, b ∈ m :: d :: O → (w.setCell ⟨x, 3, none⟩ (.int .i64 r')).heap[b]? = w.heap[b]? := fun b hb => (grown_set w x 3 _).block b (h.lt b (List.mem_cons_of_mem _ hb)) fun e => by injection e with e; subst e; exact h.xn hb
  have g := grown_set w x 3 (.int .i64 r')
  exact ⟨⟨⟨(hne m (by simp)).trans h.st.mem.head, (hne d (by simp)).trans h.st.mem.body, h.st.mem.len, h.st.mem.ne, h.st.mem.pos, h.st.mem.le⟩, (Turn.one (O := [x]) g (by simp)).low h.below (fun b hb => by rw [List.mem_singleton.1 hb]; exact h.xge), h.st.dge, h.st.mge⟩, PP.kept h.pool fun b hb => hne b (by simp [hb]), heap_setCell_same w x 3 _ _ _ h.sp, h.num, h.oge, h.apart, h.xge, h.xn⟩

set_option maxHeartbeats 2000000 in
theorem sp_new_no (h : QM w0 w m d n p O M xs) (ha : okI a) (k : Int) (hk : takeF 0 xs 1 a 0 = ⟨0, k, xs⟩) (h0 : k ≠ 0) :
    Calls Try.prog 12 #[.pointer (some ⟨m, 0, none⟩), .pointer (some ⟨p, 0, none⟩), .int .i64 a] w fun e w' => e = .returned (.tuple #[.pointer none, .int .i64 k]) ∧ QML w0 w w' m d n p O M xs := by
  have hq := h.box a 0
  have HT := Lib.hid (sp_take hq ha 0 ⟨by decide, by decide⟩ 0 k hk h.num (fun e => (h0 e).elim))
  have HG := Lib.hid (World.grownBy_alloc w (.cells #[.pointer (some ⟨m, 0, none⟩), .pointer (some ⟨p, 0, none⟩), .int .i64 a, .int .i64 0] 62) none)
  have HF := Lib.hid (framesE h.st)
  have hp := h.st.mem.pos
  have b1 : ((n : Int) == 0) = false := by simp; omega
  have b0 : (k != 0) = true := by simpa using h0
  clear h hq hk hp
  go_enter Try.func12, Try.ntmps12
  go_wp2_with fail
  refine HF.out.mono ?_
  rintro e w2 ⟨rfl, e2⟩
  subst w2
  go_wp2_with fail
  refine HT.out.mono ?_
  rintro e w3 ⟨rfl, h3⟩
  have H3 := Lib.hid (h3.since HG.out).qml
  clear h3
  go_wp2_with fail
  go_ret2
  exact ⟨rfl, H3.out⟩

set_option maxHeartbeats 2000000 in
theorem sp_new_ok (h : QM w0 w m d n p O M xs) (ha : okI a) (k : Nat) (hkn : k < n) (hk : takeF 0 xs 1 a 0 = ⟨k, 0, zs⟩) (hz : zs.length = n) :
    Calls Try.prog 12 #[.pointer (some ⟨m, 0, none⟩), .pointer (some ⟨p, 0, none⟩), .int .i64 a] w fun e w' => ∃ x O' M', e = .returned (.tuple #[.pointer (some ⟨x, 0, none⟩), .int .i64 0]) ∧ QX w0 w' m d n p O' x a k M' zs ∧ wordI n M' = zeroW (wordI n M) k ∧ Turn (d :: O) w w' ∧ (∀ b, b ∈ O' → b ∈ O ∨ w.heap.size ≤ b) ∧ w.heap.size ≤ x := by
  have hq := h.box a 0
  have HT := Lib.hid (sp_take hq ha 0 ⟨by decide, by decide⟩ k 0 hk hz (fun _ => ⟨by omega, by omega⟩))
  have HG := Lib.hid (World.grownBy_alloc w (.cells #[.pointer (some ⟨m, 0, none⟩), .pointer (some ⟨p, 0, none⟩), .int .i64 a, .int .i64 0] 62) none)
  have HF := Lib.hid (framesE h.st)
  have hp := h.st.mem.pos
  have b1 : ((n : Int) == 0) = false := by simp; omega
  have HW := Lib.hid (words_zero (n := n) h.st.len k hkn)
  have HK := Lib.hid hkn
  obtain ⟨x, hx⟩ : ∃ x, w.heap.size = x := ⟨_, rfl⟩
  obtain ⟨K, hK⟩ : ∃ K : Int, (k : Int) = K := ⟨_, rfl⟩
  rw [hx, hK] at HT
  have HX := Lib.hid hx
  have HKK := Lib.hid hK
  clear h hq hk hp hkn hK
  go_enter Try.func12, Try.ntmps12
  go_wp2_with fail
  refine HF.out.mono ?_
  rintro e w2 ⟨rfl, e2⟩
  subst w2
  go_wp2_with fail
  refine HT.out.mono ?_
  rintro e w3 ⟨rfl, h3⟩
  obtain ⟨O3, k3, t3, f3⟩ := h3.since HG.out
  have HZ := Lib.hid (zeroE k3.st K k HKK.out.symm HK.out)
  have K3 := Lib.hid k3
  have T3 := Lib.hid t3
  have F3 := Lib.hid f3
  clear h3 k3 t3 f3
  go_wp2_with fail
  refine HZ.out.mono ?_
  rintro e w4 ⟨rfl, s4, g4⟩
  obtain ⟨O4, k4, t4, f4⟩ := QXL.next T3.out F3.out (K3.out.mem s4 g4)
  have k5 := k4.setRoot K
  have K5 := Lib.hid k5
  have T5 := Lib.hid (t4.trans (Turn.one (O := [x]) (grown_set w4 x 3 (.int .i64 K)) (by simp)) (fun b hb => by rw [List.mem_singleton.1 hb, ← HX.out]; exact .inr (Nat.le_refl _)))
  have F5 := Lib.hid f4
  have c3 := k4.sp.at.2.2.2
  have z3 : w4.frozen? ⟨x, 3, none⟩ = false := frozen_of_row _ _ _ _ _ k4.sp
  clear s4 g4 k4 t4 f4 k5
  go_wp2_with fail
  go_ret2
  have e := HKK.out
  refine ⟨x, O4, _, rfl, e ▸ K5.out, HW.out, T5.out, F5.out, by rw [HX.out]; exact Nat.le_refl _⟩
end
end Go.Proofs.Ytlieommbomjdaaa
