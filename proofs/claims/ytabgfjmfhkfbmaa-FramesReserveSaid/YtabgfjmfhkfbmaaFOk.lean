/- What package frames must be shown to say of its pools (P: a pool by its reserve, its frames and its blocks); the example of the chapter; the law's act and like. -/
import Derived.Test.YtabgfjmfhkfbmaaFRef3
namespace Go.Proofs.Ytabgfjmfhkfbmaa
open Go.ChangeShapes Go.WideShapes Go.ChangeAt Go.RowKit Go.Deep
set_option linter.unusedVariables false

/-- A pool behind a call. -/
def FLeft (P : World → Nat → Int → List FrV → List Nat → Prop) (w w' : World) (p : Nat) (rs : Int) (O : List Nat) (zs : List FrV) : Prop := ∃ O', P w' p rs zs O' ∧ Turn O w w' ∧ ∀ b, b ∈ O' → b ∈ O ∨ w.heap.size ≤ b

structure FrOk (P : World → Nat → Int → List FrV → List Nat → Prop) : Prop where
  lt : ∀ {w p rs xs O}, P w p rs xs O → ∀ b, b ∈ O → b < w.heap.size
  kept : ∀ {w w' p rs xs O}, P w p rs xs O → w.heap.size ≤ w'.heap.size → (∀ b, b ∈ O → w'.heap[b]? = w.heap[b]?) → P w' p rs xs O
  good : ∀ {w p rs xs O}, P w p rs xs O → Goods xs
  size : ∀ {w p rs xs O}, P w p rs xs O → 1 ≤ xs.length ∧ xs.length ≤ 256 ∧ 0 ≤ rs ∧ rs ≤ xs.length
  new : ∀ (w : World) (n : Nat) (rs : Int), 1 ≤ n → n ≤ 256 → 0 ≤ rs → rs ≤ n → Calls Try.prog 8 #[.int .i64 n, .int .i64 rs] w fun e w' => ∃ p O, e = .returned (.pointer (some ⟨p, 0, none⟩)) ∧ P w' p rs (List.replicate n zeroF) O ∧ w.grownBy w' none ∧ ∀ b, b ∈ O → w.heap.size ≤ b
  newNo : ∀ (w : World) (n rs : Int), ¬ (1 ≤ n ∧ n ≤ 256 ∧ 0 ≤ rs ∧ rs ≤ n) → Calls Try.prog 8 #[.int .i64 n, .int .i64 rs] w fun e w' => e = .returned (.pointer none) ∧ w.grownBy w' none
  take : ∀ {w p rs xs O}, P w p rs xs O → ∀ c o i, okI c → okI o → okI i → Calls Try.prog 18 #[.pointer (some ⟨p, 0, none⟩), .int .i64 c, .int .i64 o, .int .i64 i] w fun e w' => e = .returned (.tuple #[.int .i64 (takeF rs xs c o i).n, .int .i64 (takeF rs xs c o i).e]) ∧ FLeft P w w' p rs O (takeF rs xs c o i).xs
  give : ∀ {w p rs xs O}, P w p rs xs O → ∀ fr, okI fr → Calls Try.prog 19 #[.pointer (some ⟨p, 0, none⟩), .int .i64 fr] w fun e w' => e = .returned (.int .i64 (giveF xs fr).e) ∧ FLeft P w w' p rs O (giveF xs fr).xs
  own : ∀ {w p rs xs O}, P w p rs xs O → ∀ fr c o i, okI fr → okI c → okI o → okI i → Calls Try.prog 22 #[.pointer (some ⟨p, 0, none⟩), .int .i64 fr, .int .i64 c, .int .i64 o, .int .i64 i] w fun e w' => e = .returned (.int .i64 (ownF xs fr c o i).e) ∧ FLeft P w w' p rs O (ownF xs fr c o i).xs
  wire : ∀ {w p rs xs O}, P w p rs xs O → ∀ fr b, okI fr → okI b → Calls Try.prog 20 #[.pointer (some ⟨p, 0, none⟩), .int .i64 fr, .int .i64 b] w fun e w' => e = .returned (.int .i64 (wireF xs fr b).e) ∧ FLeft P w w' p rs O (wireF xs fr b).xs
  loan : ∀ {w p rs xs O}, P w p rs xs O → ∀ fr b, okI fr → okI b → Calls Try.prog 21 #[.pointer (some ⟨p, 0, none⟩), .int .i64 fr, .int .i64 b] w fun e w' => e = .returned (.int .i64 (loanF xs fr b).e) ∧ FLeft P w w' p rs O (loanF xs fr b).xs
  get : ∀ {w p rs xs O}, P w p rs xs O → ∀ fr, okI fr → Calls Try.prog 16 #[.pointer (some ⟨p, 0, none⟩), .int .i64 fr] w fun e w' => e = .returned (getV (getF xs fr)) ∧ w.grownBy w' none
  free : ∀ {w p rs xs O}, P w p rs xs O → Calls Try.prog 13 #[.pointer (some ⟨p, 0, none⟩)] w fun e w' => e = .returned (.int .i64 (countF xs 0)) ∧ w.grownBy w' none
  count : ∀ {w p rs xs O}, P w p rs xs O → ∀ c, okI c → Calls Try.prog 15 #[.pointer (some ⟨p, 0, none⟩), .int .i64 c] w fun e w' => e = .returned (.int .i64 (countF xs c)) ∧ w.grownBy w' none

section
variable {P : World → Nat → Int → List FrV → List Nat → Prop} {w w' : World} {p : Nat} {rs : Int} {xs zs : List FrV} {O : List Nat}
theorem FrOk.grow (H : FrOk P) (h : P w p rs xs O) (g : w.grownBy w' none) : P w' p rs xs O := H.kept h g.size fun b hb => g.block b (H.lt h b hb) (by simp)
theorem FrOk.turn (H : FrOk P) {O2 : List Nat} (h : P w p rs xs O) (g : Turn O2 w w') (ho : ∀ b, b ∈ O → b ∉ O2) : P w' p rs xs O := H.kept h g.size fun b hb => g.block b (H.lt h b hb) (ho b hb)
theorem FLeft.back {w0 : World} (h : FLeft P w w' p rs O zs) (k : w0.grownBy w none) : FLeft P w0 w' p rs O zs := by
  obtain ⟨O', h1, h2, h3⟩ := h
  exact ⟨O', h1, (Turn.grown k).trans' h2, fun b hb => (h3 b hb).imp id fun q => Nat.le_trans k.size q⟩
theorem FrOk.stay (H : FrOk P) (h : P w p rs xs O) (g : w.grownBy w' none) : FLeft P w w' p rs O xs := ⟨O, H.grow h g, Turn.grown g, fun b hb => .inl hb⟩
end

theorem eql_pool_nil (w : World) (a : Addr) : (binOp .eql 23 (.pointer (some a)) (.pointer none)).run Try.prog w = .ok (.bool false) w := by
  have h1 : ∀ d : Nat, (Op.equalIn (d + 1) 23 (.pointer (some a)) (.pointer none)).run Try.prog w = .ok false w := fun d => by
    simp [Op.equalIn, run_underlying Try.underlying23]
  simp only [binOp]
  simp [Op.equal, Op.maxDepth, h1 9999]

/-! ### the example -/
def lx0 : List FrV := List.replicate 3 zeroF
def lx1 : List FrV := [⟨2, 1, 0, 0, 0⟩, zeroF, zeroF]
def lx2 : List FrV := [⟨2, 1, 0, 0, 0⟩, ⟨2, 1, 0, 0, 0⟩, zeroF]
def lx3 : List FrV := [⟨2, 1, 0, 0, 0⟩, ⟨2, 1, 0, 0, 0⟩, ⟨1, 1, 0, 0, 0⟩]
theorem lx_1 : takeF 1 lx0 2 1 0 = ⟨0, 0, lx1⟩ := rfl
theorem lx_2 : takeF 1 lx1 2 1 0 = ⟨1, 0, lx2⟩ := rfl
theorem lx_3 : takeF 1 lx2 2 1 0 = ⟨0, 5, lx2⟩ := rfl
theorem lx_4 : takeF 1 lx2 1 1 0 = ⟨2, 0, lx3⟩ := rfl
theorem ok_s {x : Int} (h0 : -1000 ≤ x) (h1 : x ≤ 1000) : okI x := ⟨by omega, by omega⟩

set_option maxRecDepth 100000 in
set_option maxHeartbeats 1000000 in
theorem lives6 {P : World → Nat → Int → List FrV → List Nat → Prop} (H : FrOk P) (w : World) :
    Calls Try.prog 10 #[] w fun e w' => e = .returned (.bool true) ∧ w.grownBy w' none := by
  have HN := Lib.hid (H.new w 3 1 (by decide) (by decide) (by decide) (by decide))
  have HT := Lib.hid H
  clear H
  go_enter Try.func10, Try.ntmps10
  go_wp2_with fail
  refine HN.out.mono ?_
  rintro e w1 ⟨p, O, rfl, h1, g1, o1⟩
  have k1 := HT.out.take h1 2 1 0 (ok_s (by decide) (by decide)) (ok_s (by decide) (by decide)) (ok_s (by decide) (by decide))
  rw [show List.replicate 3 zeroF = lx0 from rfl, lx_1] at k1
  have K1 := Lib.hid k1
  have G1 := Lib.hid g1
  have O1 := Lib.hid o1
  clear h1 g1 o1 k1
  go_wp2_with fail
  refine K1.out.mono ?_
  rintro e w2 ⟨rfl, O2, h2, t2, o2⟩
  have k2 := HT.out.take h2 2 1 0 (ok_s (by decide) (by decide)) (ok_s (by decide) (by decide)) (ok_s (by decide) (by decide))
  rw [lx_2] at k2
  have K2 := Lib.hid k2
  have T2 := Lib.hid ((Turn.grown (O := O) G1.out).trans' t2)
  have O2a := Lib.hid (show ∀ b, b ∈ O2 → w.heap.size ≤ b from fun b hb => (o2 b hb).elim (fun q => O1.out b q) fun q => Nat.le_trans G1.out.size q)
  clear h2 t2 o2 k2
  go_wp2_with fail
  refine K2.out.mono ?_
  rintro e w3 ⟨rfl, O3, h3, t3, o3⟩
  have k3 := HT.out.take h3 2 1 0 (ok_s (by decide) (by decide)) (ok_s (by decide) (by decide)) (ok_s (by decide) (by decide))
  rw [lx_3] at k3
  have K3 := Lib.hid k3
  have T3 := Lib.hid (T2.out.trans t3 fun b hb => .inr (O2a.out b hb))
  have O3a := Lib.hid (show ∀ b, b ∈ O3 → w.heap.size ≤ b from fun b hb => (o3 b hb).elim (fun q => O2a.out b q) fun q => Nat.le_trans T2.out.size q)
  clear h3 t3 o3 k3
  go_wp2_with fail
  refine K3.out.mono ?_
  rintro e w4 ⟨rfl, O4, h4, t4, o4⟩
  have k4 := HT.out.take h4 1 1 0 (ok_s (by decide) (by decide)) (ok_s (by decide) (by decide)) (ok_s (by decide) (by decide))
  rw [lx_4] at k4
  have K4 := Lib.hid k4
  have T4 := Lib.hid (T3.out.trans t4 fun b hb => .inr (O3a.out b hb))
  have O4a := Lib.hid (show ∀ b, b ∈ O4 → w.heap.size ≤ b from fun b hb => (o4 b hb).elim (fun q => O3a.out b q) fun q => Nat.le_trans T3.out.size q)
  clear h4 t4 o4 k4
  go_wp2_with fail
  refine K4.out.mono ?_
  rintro e w5 ⟨rfl, O5, h5, t5, o5⟩
  have T5 := Lib.hid (T4.out.trans t5 fun b hb => .inr (O4a.out b hb))
  clear h5 t5 o5
  go_wp2_with fail
  go_ret
  exact ⟨rfl, T5.out.noGrown O1.out⟩

/-! ### act and like -/
/-- Something that is done to a pool. -/
structure FActV where
  k : Int
  f : Int
  a : Int
  b : Int
  c : Int
def factCells (A : FActV) : List Value := [.int .i64 A.k, .int .i64 A.f, .int .i64 A.a, .int .i64 A.b, .int .i64 A.c]
structure FActV.Ok (A : FActV) : Prop where
  f : okI A.f
  a : okI A.a
  b : okI A.b
  c : okI A.c
def actF (rs : Int) (xs : List FrV) (A : FActV) : AnsF :=
  if A.k = 0 then takeF rs xs A.a A.b A.c
  else if A.k = 1 then giveF xs A.f
  else if A.k = 2 then ownF xs A.f A.a A.b A.c
  else if A.k = 3 then wireF xs A.f A.a
  else if A.k = 4 then loanF xs A.f A.a
  else ⟨0, 0, xs⟩
theorem atF_n (xs : List FrV) (fr : Int) (f : FrV → Int × FrV) : (atF xs fr f).n = 0 := by
  unfold atF
  split
  · split
    · split <;> rfl
    · rfl
  · rfl
theorem actF_good {rs : Int} {xs : List FrV} {A : FActV} (h : Goods xs) (hA : A.Ok) : Goods (actF rs xs A).xs := by
  unfold actF
  split
  · exact takeF_good h hA.b hA.c
  · split
    · exact giveF_good h
    · split
      · exact ownF_good h hA.b hA.c
      · split
        · exact wireF_good h
        · split
          · exact loanF_good h
          · exact h
theorem actF_len {rs : Int} {xs : List FrV} {A : FActV} : (actF rs xs A).xs.length = xs.length := by
  unfold actF
  split
  · exact takeF_len
  · split
    · exact atF_len _
    · split
      · exact atF_len _
      · split
        · exact atF_len _
        · split
          · exact atF_len _
          · rfl
/-- An act, boxed. -/
def FActB (w : World) (y : Nat) (A : FActV) : Prop := w.heap[y]? = some (.cells #[.int .i64 A.k, .int .i64 A.f, .int .i64 A.a, .int .i64 A.b, .int .i64 A.c] 29 (0, 0))
section
variable {w w' : World} {y : Nat} {A : FActV}
theorem FActB.at (h : FActB w y A) : w.cell? ⟨y, 0, none⟩ = some (.int .i64 A.k) ∧ w.cell? ⟨y, 1, none⟩ = some (.int .i64 A.f) ∧ w.cell? ⟨y, 2, none⟩ = some (.int .i64 A.a) ∧ w.cell? ⟨y, 3, none⟩ = some (.int .i64 A.b) ∧ w.cell? ⟨y, 4, none⟩ = some (.int .i64 A.c) :=
  ⟨by rw [cell_of_row _ _ _ _ _ _ h]; rfl, by rw [cell_of_row _ _ _ _ _ _ h]; rfl, by rw [cell_of_row _ _ _ _ _ _ h]; rfl, by rw [cell_of_row _ _ _ _ _ _ h]; rfl, by rw [cell_of_row _ _ _ _ _ _ h]; rfl⟩
theorem FActB.lt (h : FActB w y A) : y < w.heap.size := (Array.getElem?_eq_some_iff.1 h).1
theorem FActB.grow (h : FActB w y A) (g : w.grownBy w' none) : FActB w' y A := (g.block _ h.lt (by simp)).trans h
theorem FActB.turn {O : List Nat} (h : FActB w y A) (g : Turn O w w') (ho : y ∉ O) : FActB w' y A := (g.block _ h.lt ho).trans h
theorem FActB.new (w : World) (A : FActV) : FActB (w.alloc (.cells #[.int .i64 A.k, .int .i64 A.f, .int .i64 A.a, .int .i64 A.b, .int .i64 A.c] 29 (0, 0))) w.heap.size A := heap_alloc_new w _
end

set_option maxRecDepth 100000 in
set_option maxHeartbeats 2000000 in
theorem act_ok {P : World → Nat → Int → List FrV → List Nat → Prop} (H : FrOk P) {w : World} {p : Nat} {rs : Int} {xs : List FrV} {O : List Nat} (h : P w p rs xs O) (A : FActV) (hA : A.Ok) :
    Calls Try.prog 11 #[.pointer (some ⟨p, 0, none⟩), .agg #[.int .i64 A.k, .int .i64 A.f, .int .i64 A.a, .int .i64 A.b, .int .i64 A.c]] w fun e w' => e = .returned (.tuple #[.int .i64 (actF rs xs A).n, .int .i64 (actF rs xs A).e]) ∧ FLeft P w w' p rs O (actF rs xs A).xs := by
  obtain ⟨of, oa, ob, oc⟩ := hA
  have ga := World.grownBy_alloc w (.cells #[.int .i64 A.k, .int .i64 A.f, .int .i64 A.a, .int .i64 A.b, .int .i64 A.c] 29 (0, 0)) none
  have hb := FActB.new w A
  have hg := H.grow h ga
  obtain ⟨k, f, a, b, c⟩ := A
  simp only at *
  generalize hwA : w.alloc (.cells #[.int .i64 k, .int .i64 f, .int .i64 a, .int .i64 b, .int .i64 c] 29 (0, 0)) = wA at *
  obtain ⟨z0, z1, z2, z3, z4⟩ := hb.at
  have HG := Lib.hid ga
  by_cases h0 : k = 0
  · subst h0
    have HC := Lib.hid (H.take hg a b c oa ob oc)
    obtain ⟨X, hX⟩ : ∃ X, takeF rs xs a b c = X := ⟨_, rfl⟩
    have ha : actF rs xs ⟨0, f, a, b, c⟩ = X := hX
    rw [hX] at HC
    rw [ha]
    clear hX ha hg ga hb
    go_enter Try.func11, Try.ntmps11
    go_wp2_with fail
    refine HC.out.mono ?_
    rintro e w2 ⟨rfl, h2⟩
    have H2 := Lib.hid (h2.back HG.out)
    clear h2
    go_wp2_with fail
    go_ret2
    exact ⟨rfl, H2.out⟩
  · have n0 : (k == 0) = false := by simpa using h0
    by_cases h1 : k = 1
    · subst h1
      have HC := Lib.hid (H.give hg f of)
      obtain ⟨X, hX⟩ : ∃ X, giveF xs f = X := ⟨_, rfl⟩
      have ha : actF rs xs ⟨1, f, a, b, c⟩ = X := hX
      have hn : X.n = 0 := by rw [← hX]; exact atF_n _ _ _
      rw [hX] at HC
      rw [ha]
      clear hX ha hg ga hb h0
      go_enter Try.func11, Try.ntmps11
      go_wp2_with fail
      refine HC.out.mono ?_
      rintro e w2 ⟨rfl, h2⟩
      have H2 := Lib.hid (h2.back HG.out)
      clear h2
      go_wp2_with fail
      go_ret2
      exact ⟨by rw [hn]; rfl, H2.out⟩
    · have n1 : (k == 1) = false := by simpa using h1
      by_cases h2 : k = 2
      · subst h2
        have HC := Lib.hid (H.own hg f a b c of oa ob oc)
        obtain ⟨X, hX⟩ : ∃ X, ownF xs f a b c = X := ⟨_, rfl⟩
        have ha : actF rs xs ⟨2, f, a, b, c⟩ = X := hX
        have hn : X.n = 0 := by rw [← hX]; exact atF_n _ _ _
        rw [hX] at HC
        rw [ha]
        clear hX ha hg ga hb h0 h1
        go_enter Try.func11, Try.ntmps11
        go_wp2_with fail
        refine HC.out.mono ?_
        rintro e w2 ⟨rfl, h2⟩
        have H2 := Lib.hid (h2.back HG.out)
        clear h2
        go_wp2_with fail
        go_ret2
        exact ⟨by rw [hn]; rfl, H2.out⟩
      · have n2 : (k == 2) = false := by simpa using h2
        by_cases h3 : k = 3
        · subst h3
          have HC := Lib.hid (H.wire hg f a of oa)
          obtain ⟨X, hX⟩ : ∃ X, wireF xs f a = X := ⟨_, rfl⟩
          have ha : actF rs xs ⟨3, f, a, b, c⟩ = X := hX
          have hn : X.n = 0 := by rw [← hX]; exact atF_n _ _ _
          rw [hX] at HC
          rw [ha]
          clear hX ha hg ga hb h0 h1 h2
          go_enter Try.func11, Try.ntmps11
          go_wp2_with fail
          refine HC.out.mono ?_
          rintro e w2 ⟨rfl, h2⟩
          have H2 := Lib.hid (h2.back HG.out)
          clear h2
          go_wp2_with fail
          go_ret2
          exact ⟨by rw [hn]; rfl, H2.out⟩
        · have n3 : (k == 3) = false := by simpa using h3
          by_cases h4 : k = 4
          · subst h4
            have HC := Lib.hid (H.loan hg f a of oa)
            obtain ⟨X, hX⟩ : ∃ X, loanF xs f a = X := ⟨_, rfl⟩
            have ha : actF rs xs ⟨4, f, a, b, c⟩ = X := hX
            have hn : X.n = 0 := by rw [← hX]; exact atF_n _ _ _
            rw [hX] at HC
            rw [ha]
            clear hX ha hg ga hb h0 h1 h2 h3
            go_enter Try.func11, Try.ntmps11
            go_wp2_with fail
            refine HC.out.mono ?_
            rintro e w2 ⟨rfl, h2⟩
            have H2 := Lib.hid (h2.back HG.out)
            clear h2
            go_wp2_with fail
            go_ret2
            exact ⟨by rw [hn]; rfl, H2.out⟩
          · have n4 : (k == 4) = false := by simpa using h4
            have ha : actF rs xs ⟨k, f, a, b, c⟩ = ⟨0, 0, xs⟩ := by unfold actF; simp only [h0, h1, h2, h3, h4, if_false]
            rw [ha]
            have H2 := Lib.hid (H.stay h ga)
            clear ha hg ga hb h0 h1 h2 h3 h4
            go_enter Try.func11, Try.ntmps11
            go_wp2_with fail
            go_ret2
            exact ⟨rfl, H2.out⟩

set_option maxRecDepth 100000 in
set_option maxHeartbeats 2000000 in
theorem like_ok {w : World} {r g c' : Nat} {rs : Int} {xs : List FrV} (h : RP w r rs xs g c') (hG : Goods xs) (A : FActV) :
    Calls Try.prog 12 #[.pointer (some ⟨r, 0, none⟩), .agg #[.int .i64 A.k, .int .i64 A.f, .int .i64 A.a, .int .i64 A.b, .int .i64 A.c]] w fun e w' => e = .returned (.tuple #[.int .i64 (actF rs xs A).n, .int .i64 (actF rs xs A).e]) ∧ RLeft w w' r g rs (actF rs xs A).xs := by
  have ga := World.grownBy_alloc w (.cells #[.int .i64 A.k, .int .i64 A.f, .int .i64 A.a, .int .i64 A.b, .int .i64 A.c] 29 (0, 0)) none
  have hb := FActB.new w A
  have hg := h.grow ga
  obtain ⟨k, f, a, b, c⟩ := A
  simp only at *
  generalize hwA : w.alloc (.cells #[.int .i64 k, .int .i64 f, .int .i64 a, .int .i64 b, .int .i64 c] 29 (0, 0)) = wA at *
  obtain ⟨z0, z1, z2, z3, z4⟩ := hb.at
  have HG := Lib.hid ga
  by_cases h0 : k = 0
  · subst h0
    have HC := Lib.hid (ref_take hg a b c)
    obtain ⟨X, hX⟩ : ∃ X, takeF rs xs a b c = X := ⟨_, rfl⟩
    have ha : actF rs xs ⟨0, f, a, b, c⟩ = X := hX
    rw [hX] at HC
    rw [ha]
    clear hX ha hg ga hb
    go_enter Try.func12, Try.ntmps12
    go_wp2_with fail
    refine HC.out.mono ?_
    rintro e w2 ⟨rfl, h2⟩
    have H2 := Lib.hid (h2.back HG.out)
    clear h2
    go_wp2_with fail
    go_ret2
    exact ⟨rfl, H2.out⟩
  · have n0 : (k == 0) = false := by simpa using h0
    by_cases h1 : k = 1
    · subst h1
      have HC := Lib.hid (ref_give hg f)
      obtain ⟨X, hX⟩ : ∃ X, giveF xs f = X := ⟨_, rfl⟩
      have ha : actF rs xs ⟨1, f, a, b, c⟩ = X := hX
      have hn : X.n = 0 := by rw [← hX]; exact atF_n _ _ _
      rw [hX] at HC
      rw [ha]
      clear hX ha hg ga hb h0
      go_enter Try.func12, Try.ntmps12
      go_wp2_with fail
      refine HC.out.mono ?_
      rintro e w2 ⟨rfl, h2⟩
      have H2 := Lib.hid (h2.back HG.out)
      clear h2
      go_wp2_with fail
      go_ret2
      exact ⟨by rw [hn]; rfl, H2.out⟩
    · have n1 : (k == 1) = false := by simpa using h1
      by_cases h2 : k = 2
      · subst h2
        have HC := Lib.hid (ref_own hg f a b c)
        obtain ⟨X, hX⟩ : ∃ X, ownF xs f a b c = X := ⟨_, rfl⟩
        have ha : actF rs xs ⟨2, f, a, b, c⟩ = X := hX
        have hn : X.n = 0 := by rw [← hX]; exact atF_n _ _ _
        rw [hX] at HC
        rw [ha]
        clear hX ha hg ga hb h0 h1
        go_enter Try.func12, Try.ntmps12
        go_wp2_with fail
        refine HC.out.mono ?_
        rintro e w2 ⟨rfl, h2⟩
        have H2 := Lib.hid (h2.back HG.out)
        clear h2
        go_wp2_with fail
        go_ret2
        exact ⟨by rw [hn]; rfl, H2.out⟩
      · have n2 : (k == 2) = false := by simpa using h2
        by_cases h3 : k = 3
        · subst h3
          have HC := Lib.hid (ref_wire hg hG f a)
          obtain ⟨X, hX⟩ : ∃ X, wireF xs f a = X := ⟨_, rfl⟩
          have ha : actF rs xs ⟨3, f, a, b, c⟩ = X := hX
          have hn : X.n = 0 := by rw [← hX]; exact atF_n _ _ _
          rw [hX] at HC
          rw [ha]
          clear hX ha hg ga hb h0 h1 h2
          go_enter Try.func12, Try.ntmps12
          go_wp2_with fail
          refine HC.out.mono ?_
          rintro e w2 ⟨rfl, h2⟩
          have H2 := Lib.hid (h2.back HG.out)
          clear h2
          go_wp2_with fail
          go_ret2
          exact ⟨by rw [hn]; rfl, H2.out⟩
        · have n3 : (k == 3) = false := by simpa using h3
          by_cases h4 : k = 4
          · subst h4
            have HC := Lib.hid (ref_loan hg hG f a)
            obtain ⟨X, hX⟩ : ∃ X, loanF xs f a = X := ⟨_, rfl⟩
            have ha : actF rs xs ⟨4, f, a, b, c⟩ = X := hX
            have hn : X.n = 0 := by rw [← hX]; exact atF_n _ _ _
            rw [hX] at HC
            rw [ha]
            clear hX ha hg ga hb h0 h1 h2 h3
            go_enter Try.func12, Try.ntmps12
            go_wp2_with fail
            refine HC.out.mono ?_
            rintro e w2 ⟨rfl, h2⟩
            have H2 := Lib.hid (h2.back HG.out)
            clear h2
            go_wp2_with fail
            go_ret2
            exact ⟨by rw [hn]; rfl, H2.out⟩
          · have n4 : (k == 4) = false := by simpa using h4
            have ha : actF rs xs ⟨k, f, a, b, c⟩ = ⟨0, 0, xs⟩ := by unfold actF; simp only [h0, h1, h2, h3, h4, if_false]
            rw [ha]
            have H2 := Lib.hid (h.stay' ga)
            clear ha hg ga hb h0 h1 h2 h3 h4
            go_enter Try.func12, Try.ntmps12
            go_wp2_with fail
            go_ret2
            exact ⟨rfl, H2.out⟩

end Go.Proofs.Ytabgfjmfhkfbmaa
