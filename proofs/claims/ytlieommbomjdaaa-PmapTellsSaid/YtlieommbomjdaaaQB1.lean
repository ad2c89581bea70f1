/- Package pmap: what a space is; made, isFrame, next. Package pmap: below (the tables to which a table leads), way. Package pmap: way (the tables on the way to a page that are there). -/
import Derived.Test.YtlieommbomjdaaaWSays
import Derived.Test.YtlieommbomjdaaaMB4
namespace Go.Proofs.Ytlieommbomjdaaa
open Go.ChangeShapes Go.WideShapes Go.ChangeAt Go.RowKit Go.Deep
set_option linter.unusedVariables false

/-- A space: block x. -/
def SpB (w : World) (x m p : Nat) (a r : Int) : Prop := w.heap[x]? = some (.cells #[.pointer (some ⟨m, 0, none⟩), .pointer (some ⟨p, 0, none⟩), .int .i64 a, .int .i64 r] 62 (0, 0))
/-- A space that no call made, or that was closed. -/
def ZpB (w : World) (x : Nat) : Prop := w.heap[x]? = some (.cells #[.pointer none, .pointer none, .int .i64 0, .int .i64 0] 62 (0, 0))
def nxV (y : Option Int) : Value := .tuple #[.int .i64 (y.getD 0), .bool y.isSome]

section
variable {w w' : World} {x m p : Nat} {a r : Int}
theorem SpB.lt (h : SpB w x m p a r) : x < w.heap.size := (Array.getElem?_eq_some_iff.1 h).1
theorem SpB.at (h : SpB w x m p a r) : w.cell? ⟨x, 0, none⟩ = some (.pointer (some ⟨m, 0, none⟩)) ∧ w.cell? ⟨x, 1, none⟩ = some (.pointer (some ⟨p, 0, none⟩)) ∧ w.cell? ⟨x, 2, none⟩ = some (.int .i64 a) ∧ w.cell? ⟨x, 3, none⟩ = some (.int .i64 r) :=
  ⟨by rw [cell_of_row _ _ _ _ _ _ h]; rfl, by rw [cell_of_row _ _ _ _ _ _ h]; rfl, by rw [cell_of_row _ _ _ _ _ _ h]; rfl, by rw [cell_of_row _ _ _ _ _ _ h]; rfl⟩
theorem SpB.kept (h : SpB w x m p a r) (hb : w'.heap[x]? = w.heap[x]?) : SpB w' x m p a r := hb.trans h
theorem SpB.grow (h : SpB w x m p a r) (g : w.grownBy w' none) : SpB w' x m p a r := (g.block _ h.lt (by simp)).trans h
theorem SpB.grow' {k : Nat} (h : SpB w x m p a r) (g : w.grownBy w' (some k)) (hk : x ≠ k) : SpB w' x m p a r := (g.block _ h.lt (by intro e; exact hk (Option.some.inj e))).trans h
theorem ZpB.lt (h : ZpB w x) : x < w.heap.size := (Array.getElem?_eq_some_iff.1 h).1
theorem ZpB.at (h : ZpB w x) : w.cell? ⟨x, 0, none⟩ = some (.pointer none) := by rw [cell_of_row _ _ _ _ _ _ h]; rfl
theorem ZpB.grow (h : ZpB w x) (g : w.grownBy w' none) : ZpB w' x := (g.block _ h.lt (by simp)).trans h
end

theorem neq_map_nil (w : World) (a : Addr) : (binOp .neq 28 (.pointer (some a)) (.pointer none)).run Try.prog w = .ok (.bool true) w := by
  have h1 : ∀ d : Nat, (Op.equalIn (d + 1) 28 (.pointer (some a)) (.pointer none)).run Try.prog w = .ok false w := fun d => by
    simp [Op.equalIn, run_underlying Try.underlying28]
  simp only [binOp]
  simp [Op.equal, Op.maxDepth, h1 9999]
theorem neq_map_nil0 (w : World) : (binOp .neq 28 (.pointer none) (.pointer none)).run Try.prog w = .ok (.bool false) w := by kernel_rfl
theorem neq_mem_nil (w : World) (a : Addr) : (binOp .neq 24 (.pointer (some a)) (.pointer none)).run Try.prog w = .ok (.bool true) w := by
  have h1 : ∀ d : Nat, (Op.equalIn (d + 1) 24 (.pointer (some a)) (.pointer none)).run Try.prog w = .ok false w := fun d => by
    simp [Op.equalIn, run_underlying Try.underlying24]
  simp only [binOp]
  simp [Op.equal, Op.maxDepth, h1 9999]
theorem neq_mem_nil0 (w : World) : (binOp .neq 24 (.pointer none) (.pointer none)).run Try.prog w = .ok (.bool false) w := by kernel_rfl

section
variable {w0 w w' : World} {x m d n p : Nat} {a r : Int} {M : List UInt8}
theorem sp_made (h : SpB w x m p a r) : Calls Try.prog 33 #[.pointer (some ⟨x, 0, none⟩)] w fun e w' => e = .returned (.bool true) ∧ w' = w := by
  have c0 := h.at.1
  have hq := neq_map_nil
  have hq2 := neq_mem_nil
  clear h
  go_enter Try.func33, Try.ntmps33
  go_wp2_with fail
  go_ret
  exact ⟨rfl, rfl⟩
theorem nil_madeM (w : World) : Calls Try.prog 33 #[.pointer none] w fun e w' => e = .returned (.bool false) ∧ w' = w := by
  have hq := neq_map_nil0
  go_enter Try.func33, Try.ntmps33
  go_wp2_with fail
  go_ret
  exact ⟨rfl, rfl⟩
theorem zp_made (h : ZpB w x) : Calls Try.prog 33 #[.pointer (some ⟨x, 0, none⟩)] w fun e w' => e = .returned (.bool false) ∧ w' = w := by
  have c0 := h.at
  have hq := neq_map_nil
  have hq2 := neq_mem_nil0
  clear h
  go_enter Try.func33, Try.ntmps33
  go_wp2_with fail
  go_ret
  exact ⟨rfl, rfl⟩

theorem sp_isFrame (h : SpB w x m p a r) (hs : St w0 w m d n M) (i : Int) (b : Bool) (hb : decide (0 ≤ i ∧ i < n) = b) :
    Calls Try.prog 34 #[.pointer (some ⟨x, 0, none⟩), .int .i64 i] w fun e w' => e = .returned (.bool b) ∧ w' = w := by
  have HF := Lib.hid (framesE hs)
  have c0 := h.at.1
  clear h hs
  subst hb
  by_cases h0 : 0 ≤ i
  · have d0 : decide (i ≥ 0) = true := by simpa using h0
    have e : decide (0 ≤ i ∧ i < (n : Int)) = decide (i < (n : Int)) := by simp [h0]
    rw [e]
    clear h0 e
    go_enter Try.func34, Try.ntmps34
    go_wp2_with fail
    refine HF.out.mono ?_
    rintro e w' ⟨rfl, rfl⟩
    go_wp2_with fail
    go_ret
    exact ⟨rfl, rfl⟩
  · have d0 : decide (i ≥ 0) = false := by simpa using h0
    have e : decide (0 ≤ i ∧ i < (n : Int)) = false := by simp [h0]
    rw [e]
    clear h0 e
    go_enter Try.func34, Try.ntmps34
    go_wp2_with fail
    go_ret
    exact ⟨rfl, rfl⟩

set_option maxHeartbeats 2000000 in
theorem sp_next (h : SpB w x m p a r) (hs : St w0 w m d n M) (f i : Int) (y : Option Int) (hy : nxW n (wordI n M) f i = y) :
    Calls Try.prog 60 #[.pointer (some ⟨x, 0, none⟩), .int .i64 f, .int .i64 i] w fun e w' => e = .returned (nxV y) ∧ w.grownBy w' none := by
  have hx := wordI_ok n M f i
  unfold nxW at hy
  obtain ⟨X, hX⟩ : ∃ X, wordI n M f i = X := ⟨_, rfl⟩
  rw [hX] at hx hy
  have HX := Lib.hid hX
  have c0 := h.at.1
  have HW := Lib.hid (word_at hs f i)
  have HS := Lib.hid hs
  have HP := Lib.hid h
  have HDc := Lib.hid (decode_ok X hx)
  clear h hs hx hX
  generalize flagOf X = A at *
  generalize ppnOf X = B at *
  go_enter Try.func60, Try.ntmps60
  go_wp2_with fail
  refine HW.out.mono ?_
  rintro e w2 ⟨rfl, e2⟩
  subst w2
  rw [HX.out]
  go_wp2_with fail
  refine (HDc.out _).mono ?_
  rintro e w3 ⟨rfl, h3⟩
  have h3 := grown_of_below' h3
  have HP3 := Lib.hid (HP.out.grow h3)
  have HS3 := Lib.hid (HS.out.grow h3)
  have H3 := Lib.hid h3
  clear h3
  have ga := World.grownBy_alloc w3 (.cells #[.int .i64 A, .int .i64 B] 44) none
  have HY := Lib.hid (show EntB (w3.alloc (.cells #[.int .i64 A, .int .i64 B] 44)) w3.heap.size A B from heap_alloc_new w3 _)
  have HP4 := Lib.hid (HP3.out.grow ga)
  have HS4 := Lib.hid (HS3.out.grow ga)
  have H4 := Lib.hid (grown_trans H3.out ga)
  have HK0 := kind_ok A B
  clear ga
  by_cases hk : kindOf A = 1
  · rw [hk] at HK0
    have HK := Lib.hid HK0
    simp only [hk, true_and] at hy
    clear HK0 hk
    go_wp2_with fail
    refine (HK.out _).mono ?_
    rintro e w5 ⟨rfl, h5⟩
    have h5 := grown_of_below' h5
    have HP5 := Lib.hid (HP4.out.grow h5)
    have HS5 := Lib.hid (HS4.out.grow h5)
    have hc1 := (HY.out.grow h5).at.2
    have H5 := Lib.hid (grown_trans H4.out h5)
    clear h5
    by_cases hb : 0 ≤ B ∧ B < (n : Int)
    · rw [if_pos hb] at hy
      subst hy
      have HF := Lib.hid (sp_isFrame HP5.out HS5.out B true (decide_eq_true hb))
      clear hb
      go_wp2_with fail
      refine HF.out.mono ?_
      rintro e w6 ⟨rfl, e6⟩
      subst w6
      go_wp2_with fail
      go_ret2
      exact ⟨rfl, H5.out⟩
    · rw [if_neg hb] at hy
      subst hy
      have HF := Lib.hid (sp_isFrame HP5.out HS5.out B false (decide_eq_false hb))
      clear hb
      go_wp2_with fail
      refine HF.out.mono ?_
      rintro e w6 ⟨rfl, e6⟩
      subst w6
      go_wp2_with fail
      go_ret2
      exact ⟨rfl, H5.out⟩
  · rw [if_neg (fun k => hk k.1)] at hy
    subst hy
    have HK := Lib.hid HK0
    have e0 : (kindOf A != 1) = true := by simp [hk]
    clear HK0 hk
    generalize kindOf A = kd at *
    go_wp2_with fail
    refine (HK.out _).mono ?_
    rintro e w5 ⟨rfl, h5⟩
    have H5 := Lib.hid (grown_trans H4.out (grown_of_below' h5))
    clear h5
    go_wp2_with fail
    go_ret2
    exact ⟨rfl, H5.out⟩
end
end Go.Proofs.Ytlieommbomjdaaa

namespace Go.Proofs.Ytlieommbomjdaaa
open Go.ChangeShapes Go.WideShapes Go.ChangeAt Go.RowKit Go.Deep
set_option linter.unusedVariables false

/-- The tables to which a table's first k entries lead. -/
def belowW (n : Nat) (W : WoF) (t : Int) (k : Nat) : List Int := (List.range k).flatMap fun i => (nxW n W t (i : Nat)).toList
theorem belowW_succ (n : Nat) (W : WoF) (t : Int) (k : Nat) : belowW n W t (k + 1) = belowW n W t k ++ (nxW n W t (k : Nat)).toList := by
  unfold belowW
  rw [List.range_succ, List.flatMap_append]
  simp
theorem belowW_len (n : Nat) (W : WoF) (t : Int) (k : Nat) : (belowW n W t k).length ≤ k := by
  induction k with
  | zero => simp [belowW]
  | succ k ih =>
    rw [belowW_succ, List.length_append]
    have : (nxW n W t (k : Nat)).toList.length ≤ 1 := by cases nxW n W t (k : Nat) <;> simp
    omega

theorem Mk.grow {w wr w3 : World} {v : Value} {ys : List Int} (h : Mk w wr v ys) (g : wr.grownBy w3 none) : Mk w w3 v ys := ⟨h.own.grow g, grown_trans h.grown g⟩
section
variable {w0 w w' : World} {x m d n p : Nat} {a r : Int} {M : List UInt8}
set_option maxRecDepth 100000 in
set_option maxHeartbeats 2000000 in
theorem sp_below (h : SpB w x m p a r) (hs : St w0 w m d n M) (t : Int) :
    Calls Try.prog 71 #[.pointer (some ⟨x, 0, none⟩), .int .i64 t] w fun e w' => ∃ v, e = .returned v ∧ IOwn w' w.heap.size v (belowW n (wordI n M) t 512) ∧ w.grownBy w' none := by
  have HP := Lib.hid h
  have HS := Lib.hid hs
  clear h hs
  go_enter Try.func71, Try.ntmps71
  go_wp2_with fail
  go_loopw [5, 9] (fun ov iv wr => ∃ (k : Nat) (ys : List Int), k ≤ 512 ∧ iv = .int .i64 k ∧ ys.length ≤ k ∧ Hid (ys = belowW n (wordI n M) t k) ∧ Hid (Mk w wr ov ys)) (fun _ iv _ => 512 - (intOf iv).toNat)
  case atStart => exact ⟨0, [], by omega, rfl, by simp, Lib.hid rfl, ⟨IOwn.nil _ _, grown_refl _ _⟩⟩
  case round =>
    obtain ⟨k, ys, hk, rfl, hyl, HY, HM⟩ := hrel
    by_cases hlt : k < 512
    · have HP2 := Lib.hid (HP.out.grow HM.out.grown)
      have HS2 := Lib.hid (HS.out.grow HM.out.grown)
      cases hy : nxW n (wordI n M) t (k : Nat) with
      | none =>
        have hb : belowW n (wordI n M) t (k + 1) = belowW n (wordI n M) t k := by rw [belowW_succ, hy]; simp
        have HY2 := Lib.hid (HY.out.trans hb.symm)
        have HN := Lib.hid (sp_next HP2.out HS2.out t k none hy)
        clear hy hb
        unfold nxV at HN
        go_wp2_with fail
        refine HN.out.mono ?_
        rintro e w3 ⟨rfl, h3⟩
        have HM3 := Lib.hid (HM.out.grow h3)
        clear h3
        go_wp2_with fail
        go_roundw
        case rel => exact ⟨k + 1, ys, by omega, by go_num, by omega, HY2, HM3⟩
        case measure => simp [intOf]; omega
      | some g =>
        have hb : belowW n (wordI n M) t (k + 1) = belowW n (wordI n M) t k ++ [g] := by rw [belowW_succ, hy]; simp
        have HY2 := Lib.hid (show ys ++ [g] = belowW n (wordI n M) t (k + 1) by rw [hb, HY.out])
        have HN := Lib.hid (sp_next HP2.out HS2.out t k (some g) hy)
        clear hy hb
        unfold nxV at HN
        go_wp2_with fail
        refine HN.out.mono ?_
        rintro e w3 ⟨rfl, h3⟩
        have HM3 := Lib.hid (HM.out.grow h3)
        clear h3
        have hwr := HM3.out.grown.size
        go_wp2_with (at_builtin; refine wpList_int7 w3 rfl _ _ rfl w.heap.size _ ys g (by rfl) HM3.out.own w3.heap.size _ (by rfl) rfl (by omega) hwr ?_; intro g9 cap9 w9 hown9 hg9; have HM9 := Lib.hid (HM3.out.next hown9 hg9); clear hown9 hg9)
        go_roundw
        case rel => exact ⟨k + 1, ys ++ [g], by omega, by go_num, by rw [List.length_append, List.length_singleton]; omega, HY2, HM9⟩
        case measure => simp [intOf]; omega
    · obtain rfl : k = 512 := by omega
      go_wp2_with fail
      go_ret
      have e1 := HY.out
      subst e1
      exact ⟨_, rfl, HM.out.own, HM.out.grown⟩
end
end Go.Proofs.Ytlieommbomjdaaa

namespace Go.Proofs.Ytlieommbomjdaaa
open Go.ChangeShapes Go.WideShapes Go.ChangeAt Go.RowKit Go.Deep
set_option linter.unusedVariables false

/-- The tables on the way to a page that are there. -/
inductive WayAt (n : Nat) (W : WoF) (r v : Int) : List Int → Prop
  | one : WayAt n W r v [r]
  | two {m : Int} : nxW n W r (indexOf v 2) = some m → WayAt n W r v [r, m]
  | three {m l : Int} : nxW n W r (indexOf v 2) = some m → nxW n W m (indexOf v 1) = some l → WayAt n W r v [r, m, l]
/-- .. all of them. -/
def WayEnd (n : Nat) (W : WoF) (r v : Int) (ys : List Int) : Prop :=
  (ys = [r] ∧ nxW n W r (indexOf v 2) = none) ∨ (∃ m, ys = [r, m] ∧ nxW n W r (indexOf v 2) = some m ∧ nxW n W m (indexOf v 1) = none) ∨ ∃ m l, ys = [r, m, l] ∧ nxW n W r (indexOf v 2) = some m ∧ nxW n W m (indexOf v 1) = some l
theorem WayAt.step {n : Nat} {W : WoF} {r v : Int} {ys : List Int} (h : WayAt n W r v ys) :
    (∃ m l, ys = [r, m, l] ∧ WayEnd n W r v ys) ∨ ∃ t L : Int, ∃ j : Nat, ((ys.length = 1 ∧ j = 0 ∧ L = 2) ∨ (ys.length = 2 ∧ j = 1 ∧ L = 1)) ∧ ys[j]? = some t ∧ (nxW n W t (indexOf v L) = none → WayEnd n W r v ys) ∧ ∀ g, nxW n W t (indexOf v L) = some g → WayAt n W r v (ys ++ [g]) := by
  cases h with
  | one => exact .inr ⟨r, 2, 0, .inl ⟨rfl, rfl, rfl⟩, rfl, fun e => .inl ⟨rfl, e⟩, fun g e => .two e⟩
  | two h1 => exact .inr ⟨_, 1, 1, .inr ⟨rfl, rfl, rfl⟩, rfl, fun e => .inr (.inl ⟨_, rfl, h1, e⟩), fun g e => .three h1 e⟩
  | three h1 h2 => exact .inl ⟨_, _, rfl, .inr (.inr ⟨_, _, rfl, h1, h2⟩)⟩
theorem IOwn.one (w : World) (y : Int) : IOwn (w.alloc (.cells #[.int .i64 y] 3)) w.heap.size (.slice (some ⟨w.heap.size, 0, none⟩) 1 1) [y] := by
  refine ⟨by simp, .inr ⟨w.heap.size, 1, #[.int .i64 y], rfl, Nat.le_refl _, heap_alloc_new w _, by simp, by unfold maxLen; omega, rfl, rfl⟩⟩
theorem Mk.one (w : World) (y : Int) : Mk w (w.alloc (.cells #[.int .i64 y] 3)) (.slice (some ⟨w.heap.size, 0, none⟩) 1 1) [y] := ⟨IOwn.one w y, World.grownBy_alloc w _ none⟩
def lenV : Value → Nat
  | .slice _ l _ => l
  | _ => 0

section
variable {w0 w w' : World} {x m d n p : Nat} {a r : Int} {M : List UInt8}
set_option maxHeartbeats 2000000 in
theorem sp_way (h : SpB w x m p a r) (hs : St w0 w m d n M) (v : Int) :
    Calls Try.prog 35 #[.pointer (some ⟨x, 0, none⟩), .int .i64 v] w fun e w' => ∃ ys u, e = .returned u ∧ WayEnd n (wordI n M) r v ys ∧ IOwn w' w.heap.size u ys ∧ w.grownBy w' none := by
  have c3 := h.at.2.2.2
  have HP := Lib.hid h
  have HS := Lib.hid hs
  have hnil := IOwn.nil w w.heap.size
  have HNil := Lib.hid hnil
  clear h hs hnil
  go_enter Try.func35, Try.ntmps35
  go_wp2_with fail
  go_loopw [5] (fun ov wr => ∃ (ys : List Int), lenV ov = ys.length ∧ Hid (WayAt n (wordI n M) r v ys) ∧ Hid (Mk w wr ov ys)) (fun ov _ => 3 - lenV ov)
  case atStart => exact ⟨[r], rfl, Lib.hid .one, Lib.hid (Mk.one w r)⟩
  case round =>
    obtain ⟨ys, hl, HW, HM⟩ := hrel
    obtain ⟨s, c, rfl, hc⟩ := HM.out.own.form
    rcases HW.out.step with ⟨m2, l2, rfl, he⟩ | ⟨t, L, j, hq, ht, hno, hyes⟩
    · have HE := Lib.hid he
      clear hc hl he
      go_wp2_with fail
      go_ret
      exact ⟨_, _, rfl, HE.out, HM.out.own, HM.out.grown⟩
    · obtain ⟨g, rfl, hg⟩ : ∃ g, s = some ⟨g, 0, none⟩ ∧ ∀ (i : Nat) x, ys[i]? = some x → wr.cell? ⟨g, i, none⟩ = some (.int .i64 x) := by
        rcases hc with e | h
        · rw [e] at ht; cases ht
        · exact h
      have c0 := hg _ _ ht
      have HP2 := Lib.hid (HP.out.grow HM.out.grown)
      have HS2 := Lib.hid (HS.out.grow HM.out.grown)
      obtain ⟨y, hy⟩ : ∃ y, nxW n (wordI n M) t (indexOf v L) = y := ⟨_, rfl⟩
      have HN0 := fun W (k : wr.grownBy W none) => sp_next (HP2.out.grow k) (HS2.out.grow k) t (indexOf v L) y hy
      rw [hy] at hno hyes
      obtain ⟨G, hG⟩ : ∃ G, y.getD 0 = G := ⟨_, rfl⟩
      obtain ⟨b, hb⟩ : ∃ b, y.isSome = b := ⟨_, rfl⟩
      unfold nxV at HN0
      rw [hG, hb] at HN0
      have hno : b = false → WayEnd n (wordI n M) r v ys := fun e => hno (by cases y with | none => rfl | some z => rw [← hb] at e; cases e)
      have hyes : b = true → WayAt n (wordI n M) r v (ys ++ [G]) := fun e => hyes G (by cases y with | none => rw [← hb] at e; cases e | some z => rw [← hG]; rfl)
      have HI0 := index_ok v L
      have hc := fun W (k : wr.grownBy W none) => k.cell c0 (by simp)
      have gd := grown_drew wr
      clear hg hy ht c0 hG hb
      rcases hq with ⟨hlen, rfl, rfl⟩ | ⟨hlen, rfl, rfl⟩
      all_goals
        have HNo := Lib.hid hno
        have HYes := Lib.hid hyes
        have HN := Lib.hid HN0
        have HI := Lib.hid HI0
        have HC := Lib.hid hc
        have hc0 := hc _ gd
        clear hno hyes HN0 HI0 hc hl
        clear c3
        have k0 : IntKind.i64.wrap 0 = 0 := by decide
        have k1 : IntKind.i64.wrap 1 = 1 := by decide
        have k2 : IntKind.i64.wrap 2 = 2 := by decide
      · rw [hlen] at HM ⊢
        go_wp2_with fail
        go_region_held3 (fun W => W.cell? ⟨g, 0, none⟩ = some (.int .i64 t)) (first | with_reducible exact hc0 | (exact HC.out _ (by exact grown_drewN _ _ _)) | (exact HC.out _ G6.out))
          (first
            | (go_at_call 61; refine (HI.out _).mono ?_; rintro e w5 ⟨rfl, k5, rfl⟩)
            | (go_at_call 60; refine (HN.out _ (by exact grown_drewN _ _ _)).mono ?_; rintro e w6 ⟨rfl, g6⟩; have G6 := Lib.hid (grown_trans (grown_drewN _ _ none) g6); clear g6))
        all_goals
          have HM3 := Lib.hid (HM.out.grow G6.out)
          cases b
          · go_wp2_with fail
            go_ret
            exact ⟨_, _, rfl, HNo.out (by first | rfl | trivial), HM3.out.own, HM3.out.grown⟩
          · have hwr := HM3.out.grown.size
            go_wp2_with (at_builtin; refine wpList_int7 w6 rfl _ _ rfl w.heap.size _ ys G (by rfl) HM3.out.own w6.heap.size _ (by rfl) rfl (by omega) hwr ?_; intro g9 cap9 w9 hown9 hg9; have HM9 := Lib.hid (HM3.out.next hown9 hg9); clear hown9 hg9)
            go_roundw
            case rel => rw [hlen] at HM9; exact ⟨ys ++ [G], by simp [lenV, hlen], Lib.hid (HYes.out (by first | rfl | trivial)), HM9⟩
            case measure => simp [lenV, hlen]
      · rw [hlen] at HM ⊢
        go_wp2_with fail
        go_region_held3 (fun W => W.cell? ⟨g, 1, none⟩ = some (.int .i64 t)) (first | with_reducible exact hc0 | (exact HC.out _ (by exact grown_drewN _ _ _)) | (exact HC.out _ G6.out))
          (first
            | (go_at_call 61; refine (HI.out _).mono ?_; rintro e w5 ⟨rfl, k5, rfl⟩)
            | (go_at_call 60; refine (HN.out _ (by exact grown_drewN _ _ _)).mono ?_; rintro e w6 ⟨rfl, g6⟩; have G6 := Lib.hid (grown_trans (grown_drewN _ _ none) g6); clear g6))
        all_goals
          have HM3 := Lib.hid (HM.out.grow G6.out)
          cases b
          · go_wp2_with fail
            go_ret
            exact ⟨_, _, rfl, HNo.out (by first | rfl | trivial), HM3.out.own, HM3.out.grown⟩
          · have hwr := HM3.out.grown.size
            go_wp2_with (at_builtin; refine wpList_int7 w6 rfl _ _ rfl w.heap.size _ ys G (by rfl) HM3.out.own w6.heap.size _ (by rfl) rfl (by omega) hwr ?_; intro g9 cap9 w9 hown9 hg9; have HM9 := Lib.hid (HM3.out.next hown9 hg9); clear hown9 hg9)
            go_roundw
            case rel => rw [hlen] at HM9; exact ⟨ys ++ [G], by simp [lenV, hlen], Lib.hid (HYes.out (by first | rfl | trivial)), HM9⟩
            case measure => simp [lenV, hlen]
end
end Go.Proofs.Ytlieommbomjdaaa
