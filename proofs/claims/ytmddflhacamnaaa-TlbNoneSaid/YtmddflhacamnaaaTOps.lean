/- Package tlb: Flush, FlushAsid, FlushAll, Keys; all that it says of its tables; no table, and one that no call made. -/
import Derived.Test.YtmddflhacamnaaaTDrop
import Derived.Test.YtmddflhacamnaaaTPut
import Derived.Test.YtmddflhacamnaaaTNone
namespace Go.Proofs.Ytmddflhacamnaaa
open Go.ChangeShapes Go.WideShapes Go.ChangeAt Go.RowKit Go.Deep
set_option linter.unusedVariables false

/-! ### the callers' own closures -/
theorem enters_flush : ∀ args w, (callFunc 25 args).run Try.prog w = .ok (.enter 25 args) w := enters_of Try.func25 (by kernel_rfl) rfl
theorem enters_asid : ∀ args w, (callFunc 27 args).run Try.prog w = .ok (.enter 27 args) w := enters_of Try.func27 (by kernel_rfl) rfl
theorem enters_all : ∀ args w, (callFunc 28 args).run Try.prog w = .ok (.enter 28 args) w := enters_of Try.func28 (by kernel_rfl) rfl

theorem pred_flush {W : World} {kb : Nat} {a k : Int} (h : TwoB W kb 29 (.int .i64 a) (.int .i64 k)) (x : KeptV) :
    Calls Try.prog 25 #[.agg #[.int .i64 x.a, .int .i64 x.v], .pointer (some ⟨kb, 0, none⟩)] W fun e W' => e = .returned (.bool (sameK a k x)) ∧ W.grownBy W' none := by
  have ga := World.grownBy_alloc W (.cells #[.int .i64 x.a, .int .i64 x.v] 29 (0, 0)) none
  obtain ⟨c0, c1⟩ := (h.grow ga).at
  have HGA := Lib.hid ga
  clear ga h
  obtain ⟨xa, xv, xf, xp⟩ := x
  simp only at *
  by_cases h1 : xa = a
  · subst h1
    by_cases h2 : xv = k
    · subst h2
      rw [show sameK xa xv ⟨xa, xv, xf, xp⟩ = true by simp [sameK]]
      go_enter Try.func25, Try.ntmps25
      go_wp2_with fail
      go_ret
      exact ⟨rfl, HGA.out⟩
    · have e2 : (xv == k) = false := beq_eq_false_iff_ne.2 h2
      rw [show sameK xa k ⟨xa, xv, xf, xp⟩ = false by simp [sameK, h2]]
      go_enter Try.func25, Try.ntmps25
      go_wp2_with fail
      go_ret
      exact ⟨rfl, HGA.out⟩
  · have e1 : (xa == a) = false := beq_eq_false_iff_ne.2 h1
    rw [show sameK a k ⟨xa, xv, xf, xp⟩ = false by simp [sameK, h1]]
    go_enter Try.func25, Try.ntmps25
    go_wp2_with fail
    go_ret
    exact ⟨rfl, HGA.out⟩
theorem pred_asid {W : World} {kb : Nat} {a : Int} (h : W.heap[kb]? = some (.cells #[.int .i64 a] 3 (0, 0))) (x : KeptV) :
    Calls Try.prog 27 #[.agg #[.int .i64 x.a, .int .i64 x.v], .pointer (some ⟨kb, 0, none⟩)] W fun e W' => e = .returned (.bool (x.a == a)) ∧ W.grownBy W' none := by
  have ga := World.grownBy_alloc W (.cells #[.int .i64 x.a, .int .i64 x.v] 29 (0, 0)) none
  have hb := (ga.block kb (Array.getElem?_eq_some_iff.1 h).1 (by simp)).trans h
  have c0 : (W.alloc (.cells #[.int .i64 x.a, .int .i64 x.v] 29 (0, 0))).cell? ⟨kb, 0, none⟩ = some (.int .i64 a) := by rw [cell_of_row _ _ _ _ _ _ hb]; rfl
  clear hb
  go_enter Try.func27, Try.ntmps27
  go_wp2_with fail
  go_ret
  exact ⟨rfl, ga⟩
theorem pred_all (W : World) (x : KeptV) :
    Calls Try.prog 28 #[.agg #[.int .i64 x.a, .int .i64 x.v]] W fun e W' => e = .returned (.bool true) ∧ W.grownBy W' none := by
  have ga := World.grownBy_alloc W (.cells #[.int .i64 x.a, .int .i64 x.v] 29 (0, 0)) none
  go_enter Try.func28, Try.ntmps28
  go_wp2_with fail
  go_ret
  exact ⟨rfl, ga⟩

section
variable {w : World} {p M : Nat} {sz : Int} {v : Value} {xs : List KeptV}

theorem drop_flush {kb : Nat} {a k : Int} (h : TabT w p sz xs M v) (hb : TwoB w kb 29 (.int .i64 a) (.int .i64 k)) (hn : v.ownBlock ≠ some kb) :
    Calls Try.prog 24 #[.pointer (some ⟨p, 0, none⟩), .func (.func 25) #[] #[.pointer (some ⟨kb, 0, none⟩)]] w fun e w' =>
      e = .returned (.int .i64 ((xs.length : Int) - ((dropK (sameK a k) xs).length : Int))) ∧ DropLeft p M sz (some (kb, .cells #[.int .i64 a, .int .i64 k] 29 (0, 0))) v (dropK (sameK a k) xs) w w' := by
  refine drop_walk _ _ h (fun b o e => ?_) (fun G o hG e => ?_) fun v b2 b3 W ys x hD hk => ?_
  · obtain ⟨rfl, rfl⟩ : kb = b ∧ _ = o := by simpa using e
    exact hb
  · obtain ⟨rfl, rfl⟩ : kb = G ∧ _ = o := by simpa using e
    exact hn hG
  · refine strike_walk _ _ (sameK a k) (fun o e => ?_) (fun W ys x hD _ => ?_) enters_flush hD x hk
    · obtain ⟨_, rfl⟩ : kb = M ∧ _ = o := by simpa using e
      exact ⟨_, _, _, rfl⟩
    · exact pred_flush (hD.x _ _ rfl) x
theorem drop_asid {kb : Nat} {a : Int} (h : TabT w p sz xs M v) (hb : w.heap[kb]? = some (.cells #[.int .i64 a] 3 (0, 0))) (hn : v.ownBlock ≠ some kb) :
    Calls Try.prog 24 #[.pointer (some ⟨p, 0, none⟩), .func (.func 27) #[] #[.pointer (some ⟨kb, 0, none⟩)]] w fun e w' =>
      e = .returned (.int .i64 ((xs.length : Int) - ((dropK (fun x => x.a == a) xs).length : Int))) ∧ DropLeft p M sz (some (kb, .cells #[.int .i64 a] 3 (0, 0))) v (dropK (fun x => x.a == a) xs) w w' := by
  refine drop_walk _ _ h (fun b o e => ?_) (fun G o hG e => ?_) fun v b2 b3 W ys x hD hk => ?_
  · obtain ⟨rfl, rfl⟩ : kb = b ∧ _ = o := by simpa using e
    exact hb
  · obtain ⟨rfl, rfl⟩ : kb = G ∧ _ = o := by simpa using e
    exact hn hG
  · refine strike_walk _ _ (fun x => x.a == a) (fun o e => ?_) (fun W ys x hD _ => ?_) enters_asid hD x hk
    · obtain ⟨_, rfl⟩ : kb = M ∧ _ = o := by simpa using e
      exact ⟨_, _, _, rfl⟩
    · exact pred_asid (hD.x _ _ rfl) x
theorem drop_all (h : TabT w p sz xs M v) :
    Calls Try.prog 24 #[.pointer (some ⟨p, 0, none⟩), .func (.func 28) #[] #[]] w fun e w' =>
      e = .returned (.int .i64 (xs.length : Int)) ∧ DropLeft p M sz none v [] w w' := by
  have e0 : dropK (fun _ => true) xs = [] := by unfold dropK; simp
  rw [show ((xs.length : Int)) = (xs.length : Int) - (([] : List KeptV).length : Int) by simp, ← e0]
  refine drop_walk (q := fun _ => true) (xb := none) _ _ h (fun b o e => by cases e) (fun G o hG e => by cases e) fun v b2 b3 W ys x hD hk => ?_
  refine strike_walk _ _ (fun _ => true) (fun o e => by cases e) (fun W ys x hD _ => ?_) enters_all hD x hk
  exact pred_all W x

theorem DropLeft.left {w0 : World} {xb : Option (Nat × Obj)} {zs : List KeptV} {w' : World} (h : DropLeft p M sz xb v zs w w') (g : w0.grownBy w none) : TLeft TT w0 w' p sz (p :: M :: v.ownBlock.toList) zs := by
  obtain ⟨v', h1, h2, h3⟩ := h
  refine ⟨_, ⟨M, v', h1, rfl⟩, (Turn.grown g).trans' h3, fun b hb => ?_⟩
  rw [h2] at hb
  exact .inl hb

theorem tab_flush (h : TabT w p sz xs M v) (a k : Int) (ha : okI a) (hk : okI k) :
    Calls Try.prog 13 #[.pointer (some ⟨p, 0, none⟩), .agg #[.int .i64 a, .int .i64 k]] w fun e w' => e = .returned (.bool (decide ((dropK (sameK a k) xs).length < xs.length))) ∧ TLeft TT w w' p sz (p :: M :: v.ownBlock.toList) (dropK (sameK a k) xs) := by
  have ga := World.grownBy_alloc w (.cells #[.int .i64 a, .int .i64 k] 29 (0, 0)) none
  have hbk := TwoB.new w 29 (.int .i64 a) (.int .i64 k)
  have hA := h.grow ga
  have hn : v.ownBlock ≠ some w.heap.size := fun e => by have := h.glt e; omega
  obtain ⟨f, q, b, hf, hb⟩ := tabV_form xs a k
  have HF := Lib.hid (tab_find hA a k ha hk)
  rw [hf] at HF
  have hmf : ∀ (fn : Fn) (first cap : Array Value) (w : World), (Instr.makeFunc fn first cap).run Try.prog w = .ok (.func fn first cap) w := fun _ _ _ _ => rfl
  obtain ⟨c0, c1⟩ := hbk.at
  have HA := Lib.hid hA
  have HBK := Lib.hid hbk
  have HGA := Lib.hid ga
  have HN := Lib.hid hn
  rw [← key_drop, ← hb]
  clear h ga hbk hA hn hf
  cases b with
  | false =>
    have hnone : dropK (sameK a k) xs = xs := by
      cases hx : xs.find? (sameK a k) with
      | none => exact (key_none hx).2
      | some x => rw [hx] at hb; cases hb
    rw [hnone]
    clear hb hnone
    go_enter Try.func13, Try.ntmps13
    go_wp2_with fail
    refine HF.out.mono ?_
    rintro e w2 ⟨rfl, g2⟩
    go_wp2_with fail
    go_ret
    have g3 := grown_trans g2 (World.grownBy_alloc w2 (.cells #[.int .i64 f, .int .i64 q] 31 (0, 0)) none)
    exact ⟨rfl, _, ⟨M, v, HA.out.grow g3, rfl⟩, Turn.grown (grown_trans HGA.out g3), fun b hb => .inl hb⟩
  | true =>
    clear hb
    go_enter Try.func13, Try.ntmps13
    go_wp2_with fail
    refine HF.out.mono ?_
    rintro e w2 ⟨rfl, g2⟩
    have g3 := grown_trans g2 (World.grownBy_alloc w2 (.cells #[.int .i64 f, .int .i64 q] 31 (0, 0)) none)
    have HD := Lib.hid (drop_flush (HA.out.grow g3) (HBK.out.grow g3) HN.out)
    have HG := Lib.hid (grown_trans HGA.out g3)
    clear g2 g3
    go_wp2_with fail
    refine HD.out.mono ?_
    rintro e w4 ⟨rfl, h4⟩
    have H4 := Lib.hid (h4.left HG.out)
    clear h4
    go_wp2_with fail
    go_ret
    exact ⟨rfl, H4.out⟩

theorem tab_asid (h : TabT w p sz xs M v) (a : Int) (ha : okI a) :
    Calls Try.prog 15 #[.pointer (some ⟨p, 0, none⟩), .int .i64 a] w fun e w' => e = .returned (.int .i64 ((xs.length : Int) - ((dropK (fun x => x.a == a) xs).length : Int))) ∧ TLeft TT w w' p sz (p :: M :: v.ownBlock.toList) (dropK (fun x => x.a == a) xs) := by
  have ga := World.grownBy_alloc w (.cells #[.int .i64 a] 3 (0, 0)) none
  have hn : v.ownBlock ≠ some w.heap.size := fun e => by have := h.glt e; omega
  have hmf : ∀ (fn : Fn) (first cap : Array Value) (w : World), (Instr.makeFunc fn first cap).run Try.prog w = .ok (.func fn first cap) w := fun _ _ _ _ => rfl
  have HD := Lib.hid (drop_asid (h.grow ga) (heap_alloc_new w _) hn)
  have HG := Lib.hid ga
  clear h ga hn
  go_enter Try.func15, Try.ntmps15
  go_wp2_with fail
  refine HD.out.mono ?_
  rintro e w4 ⟨rfl, h4⟩
  have H4 := Lib.hid (h4.left HG.out)
  clear h4
  go_wp2_with fail
  go_ret
  exact ⟨rfl, H4.out⟩

theorem tab_all (h : TabT w p sz xs M v) :
    Calls Try.prog 17 #[.pointer (some ⟨p, 0, none⟩)] w fun e w' => e = .returned (.int .i64 (xs.length : Int)) ∧ TLeft TT w w' p sz (p :: M :: v.ownBlock.toList) [] := by
  have HD := Lib.hid (drop_all h)
  clear h
  go_enter Try.func17, Try.ntmps17
  go_wp2_with fail
  refine HD.out.mono ?_
  rintro e w4 ⟨rfl, h4⟩
  have H4 := Lib.hid (h4.left (grown_refl _ _))
  clear h4
  go_wp2_with fail
  go_ret
  exact ⟨rfl, H4.out⟩
end
end Go.Proofs.Ytmddflhacamnaaa
