/- The law on a row that is told as it stood, walked: it answers true, and nothing that was there has turned. -/
import Derived.Test.YtnjpdcoahojgbaaRLiveB
import Derived.Maps.OwnIn
namespace Go.Proofs.Ytnjpdcoahojgbaa.RInt
open Go.ChangeShapes Go.WideShapes Go.ChangeAt Go.RowKit
set_option linter.unusedVariables false
attribute [local go_sem] Oper.semAt_some

/-- What an append in the loop, and the store behind it, leave. -/
theorem lasts_append {wa Wd w7 : World} {b Bl B : Nat} {S : List (List Int)} {R0 : List Nat} {v v' : Value} {tmp : Obj} {k : Nat} {xs : List Value} (hgrow : (Wd.alloc tmp).grownBy w7 v.ownBlock)
    (hat : v'.ownBlock = v.ownBlock ∨ v'.ownBlock = some (Wd.alloc tmp).heap.size) (hown' : w7.ownsRow (Bl + 1) 3 1 v' k xs) (hL : LiveB wa Wd b S (R0 ++ Bl :: v.ownBlock.toList) B) (hR : ∀ g, g ∈ R0 → g < Bl) (hrow : ∀ g, v.ownBlock = some g → Bl < g) :
    LiveB wa (w7.setCell ⟨Bl, 0, none⟩ v') b S (R0 ++ Bl :: v'.ownBlock.toList) B ∧ Stay R0 Wd (w7.setCell ⟨Bl, 0, none⟩ v') ∧ Wd.heap.size ≤ (w7.setCell ⟨Bl, 0, none⟩ v').heap.size := by
  have k1 : Kept (Bl :: v.ownBlock.toList) Wd (Wd.alloc tmp) := (Kept.refl _ _).alloc _
  have k2 : Kept (Bl :: v.ownBlock.toList) (Wd.alloc tmp) w7 := ⟨hgrow.os, hgrow.tape, hgrow.output, hgrow.size, fun k hk hn => hgrow.block k hk fun e => hn (by rw [← e]; simp)⟩
  have k3 : Kept (Bl :: v.ownBlock.toList) Wd (w7.setCell ⟨Bl, 0, none⟩ v') := (k1.trans k2).setCell (by simp) _
  refine ⟨hL.own (k3.mono fun g hg => List.mem_append_right _ hg) fun g hg => ?_, fun g hg => k3.block g (hL.lt (List.mem_append_left _ hg)) fun hg2 => ?_, k3.size⟩
  · rcases List.mem_append.1 hg with hg | hg
    · exact .inl (List.mem_append_left _ hg)
    · rcases List.mem_cons.1 hg with rfl | hg
      · exact .inl (by simp)
      · have hg' : v'.ownBlock = some g := by simpa using hg
        rcases hat with e | e
        · exact .inl (List.mem_append_right _ (by rw [← e]; exact List.mem_cons_of_mem _ hg))
        · have hlt := World.ownsRow.lt hown' g hg'
          rw [hg'] at e
          have e' : g = (Wd.alloc tmp).heap.size := by simpa using e
          refine .inr ⟨?_, ?_⟩
          · rw [e']; simp
          · simpa using hlt.2
  · have hgl := hR g hg
    rcases List.mem_cons.1 hg2 with rfl | hg2
    · omega
    · have := hrow g (by simpa using hg2)
      omega

theorem lift_ok (W : List Int) (h : ∀ y, y ∈ W → okK y) : ∃ zs : List {x : Int // okK x}, zs.map (·.1) = W :=
  ⟨W.attach.map fun y => ⟨y.1, h y.1 y.2⟩, by simp⟩

/-- What stands after a part of the row has been told. -/
def LastI (wa wB : World) (b Bl : Nat) (R0 : List Nat) (W pre : List Int) (Wd : World) : Prop :=
  (∃ v, Boxed Wd Bl 34 v ∧ Nums Wd (Bl + 1) v pre ∧ ∃ A C, LiveB wa Wd b [A, C] (R0 ++ Bl :: v.ownBlock.toList) (Bl + 1) ∧ (∀ y, y ∈ A → y ∈ W ∧ y ∉ pre) ∧ A.length + C.length ≤ W.length + pre.length) ∧ Stay R0 wB Wd ∧ Bl + 1 ≤ Wd.heap.size

theorem LastI.from {wa wB : World} {b Bl : Nat} {R0 : List Nat} {W : List Int} {α : Type} (f : α → Int) (ha : wa.heap.size ≤ Bl + 1) (hB : wB.heap.size = Bl + 1) (hR0 : ∀ g, g ∈ R0 → g < Bl) : OwnFrom wB.heap.size (fun (pre : List α) Wd => LastI wa wB b Bl R0 W (pre.map f) Wd) := by
  rintro pre P Q row ⟨⟨v, h1, h2, A, C, h3, h4, h5⟩, h6, h7⟩ hg hr
  obtain ⟨v', k1, k2, rfl⟩ := holdsRow_own (Bl + 1) Bl 34 3 1 (fun pre : List Int => pre.length) (fun pre : List Int => pre.map (Value.int .i64)) (fun _ u => u = v) (pre.map f) P Q row ⟨v, h1, h2, rfl⟩ hg (fun r e => (hr r e).2)
  refine ⟨⟨_, k1, k2, A, C, liveB_abides h3 ha hg (fun r e => ⟨by have := (hr r e).1; omega, (hr r e).2⟩), h4, h5⟩, fun g hgm => (hg.block g (by have := hR0 g hgm; omega) fun e => ?_).trans (h6 g hgm), Nat.le_trans h7 hg.size⟩
  have h8 := (hr g e.symm).1
  have h9 := hR0 g hgm
  omega

theorem Stay.tr {R : List Nat} {a b c : World} (h : Stay R a b) (k : Stay R b c) : Stay R a c := fun g hg => (k g hg).trans (h g hg)
theorem Stay.less {R R' : List Nat} {a b : World} (h : Stay R a b) (hs : ∀ g, g ∈ R' → g ∈ R) : Stay R' a b := fun g hg => h g (hs g hg)

theorem LastI.next {wa wB W2 W3 W4 : World} {b Bl : Nat} {R0 : List Nat} {W pre A C : List Int} {n m : Int} {v : Value} (hv : Boxed W2 Bl 34 v) (hN : Nums W2 (Bl + 1) v (pre ++ [n])) (hs : Stay R0 wB W2) (hz : Bl + 1 ≤ W2.heap.size)
    (k1 : Stay (R0 ++ Bl :: v.ownBlock.toList) W2 W3) (z1 : W2.heap.size ≤ W3.heap.size) (k2 : Stay (R0 ++ Bl :: v.ownBlock.toList) W3 W4) (z2 : W3.heap.size ≤ W4.heap.size)
    (hL : LiveB wa W4 b [sieve m (sieve n A), sieve m (sieve n C ++ [n])] (R0 ++ Bl :: v.ownBlock.toList) (Bl + 1)) (h4 : ∀ y, y ∈ A → y ∈ W ∧ y ∉ pre) (h5 : A.length + C.length ≤ W.length + pre.length) : LastI wa wB b Bl R0 W (pre ++ [n]) W4 := by
  have k := k1.tr k2
  refine ⟨⟨v, (k Bl (by simp)).trans hv, hN.kept fun g hg => k g (by simp [hg]), _, _, hL, fun y hy => ?_, ?_⟩, hs.tr (k.less fun g hg => List.mem_append_left _ hg), by omega⟩
  · obtain ⟨hy1, _⟩ := mem_sieve.1 hy
    obtain ⟨hy2, hyn⟩ := mem_sieve.1 hy1
    obtain ⟨hw, hp⟩ := h4 y hy2
    exact ⟨hw, by simp [hp, hyn]⟩
  · have e1 := sieve_len m (sieve n A)
    have e2 := sieve_len n A
    have e3 := sieve_len m (sieve n C ++ [n])
    have e4 := sieve_len n C
    rw [List.length_append, List.length_singleton] at e3 ⊢
    omega

theorem nums_kept {w w' : World} {base k : Nat} {v : Value} {row : Option Nat} {xs : List Int} {y : Int} (h : w.ownsRow base 3 1 v (k + 1) (xs.map (Value.int .i64) ++ [.int .i64 y])) (hg : w.grownBy w' row) (hr : v.ownBlock = none ∨ v.ownBlock ≠ row) (hk : xs.length = k := by rfl) : Nums w' base v (xs ++ [y]) := by
  subst hk
  have h9 := World.ownsRow.kept h hg hr
  unfold Nums
  simpa using h9

theorem lasts_long (w : World) (s : Option Addr) (l c : Nat) (m : Int) (hl : 200 < l) :
    Calls Try.prog 5 #[.slice s l c, .int .u64 m] w fun e w' => e = .returned (.bool true) ∧ Below w.heap.size w w' := by
  have hd : decide ((l : Int) > 200) = true := by simp; omega
  have hbw : Below w.heap.size w (w.alloc (.cells #[.int .u64 m] 42)) := (Below.refl _ _).alloc (Nat.le_refl _) _
  have HBW := Lib.hid hbw
  clear hbw
  go_enter Try.func5, Try.ntmps5
  go_wp2_with fail
  refine (LiveR.start (w0 := w.alloc (.cells #[.int .u64 m] 42)) 2 (by omega) (by omega)).mono ?_
  rintro e w1 ⟨b, rfl, h1⟩
  have HB1 := Lib.hid (HBW.out.trans (h1.below.mono (by simp)))
  clear h1
  go_wp2_with fail
  refine ((lives_ok _).mono ?_)
  rintro e w9 ⟨rfl, hb⟩
  have HB := Lib.hid hb
  clear hb
  go_wp2
  go_ret
  exact ⟨rfl, ((HB1.out.alloc HB1.out.size _).trans (HB.out.mono (Nat.le_trans HB1.out.size (by simp))))⟩

set_option maxRecDepth 100000 in
set_option maxHeartbeats 4000000 in
theorem lasts_walk (w : World) (s : Option Addr) (l c : Nat) (As : List Int) (hA : IntsAre w s l As) (m : Int) (hm : (Lit.int .u64 m).wf = true) :
    Calls Try.prog 5 #[.slice s l c, .int .u64 m] w fun e w' => e = .returned (.bool true) ∧ Below w.heap.size w w' := by
  by_cases hl : 200 < l
  · exact lasts_long w s l c m hl
  · have HA := Lib.hid hA
    have hl3 : l ≤ 200 := by omega
    have hd : decide ((l : Int) > 200) = false := by simp; omega
    have hbw : Below w.heap.size w (w.alloc (.cells #[.int .u64 m] 42)) := (Below.refl _ _).alloc (Nat.le_refl _) _
    have HBW := Lib.hid hbw
    have HSA := Lib.hid (show (w.alloc (.cells #[.int .u64 m] 42)).heap.size = w.heap.size + 1 by simp)
    have HMO := Lib.hid (Boxed.new w 42 (.int .u64 m))
    have HM := Lib.hid hm
    clear hA hl hbw hm
    refine (callsIn_wide (n := 9)).1 ?_
    refine callsIn_of_wp_marks Try.func5 rfl trivial ?_ rfl
    simp only [Try.ntmps5, List.size_toArray, List.length_cons, List.length_nil, Nat.reduceAdd, Nat.reduceSub, Array.replicate_succ, Array.replicate_zero, List.push_toArray, List.append_toArray, List.nil_append, List.cons_append]
    refine wpIn_wide.2 ?_
    go_wp2_with fail
    generalize w.alloc (.cells #[.int .u64 m] 42) = wa at *
    refine (LiveR.start (w0 := wa) 2 (by omega) (by omega)).mono ?_
    rintro e w1 ⟨b, rfl, h1⟩
    have H1 := Lib.hid (show LiveR wa (w1.alloc (.cells #[.pointer (some ⟨b, 0, none⟩)] 23)) b [[], []] [w1.heap.size] from h1.own ((Kept.refl _ _).alloc _) (fun g hg => by simp at hg; subst hg; exact .inr ⟨Nat.le_refl _, by simp⟩))
    have HX1 := Lib.hid (Boxed.new w1 23 (.pointer (some ⟨b, 0, none⟩)))
    clear h1
    go_wp2_with fail
    generalize w1.alloc (.cells #[.pointer (some ⟨b, 0, none⟩)] 23) = w2 at *
    generalize w1.heap.size = X at *
    go_loopw [27] (fun i wr => ∃ (j : Nat) (W : List Int), j ≤ l ∧ i = .int .i64 j ∧ W.length ≤ j ∧ Hid (LiveR wa wr b [W, []] [X]) ∧ Hid (Boxed wr X 23 (.pointer (some ⟨b, 0, none⟩)))) (fun i _ => l - (intOf i).toNat)
    case atStart => exact ⟨0, [], by omega, rfl, by simp, H1, HX1⟩
    case round =>
      obtain ⟨j, W, hj, rfl, hW, HL, HX⟩ := hrel
      have hcx := HX.out.cell
      by_cases hlt : j < l
      · obtain ⟨n, hn⟩ : ∃ n, As[j]? = some n := ⟨_, List.getElem?_eq_getElem (by rw [HA.out.1.len]; exact hlt)⟩
        have hok := Lib.hid (HA.out.2 n (List.mem_of_getElem? hn))
        obtain ⟨g, o, rfl, hc⟩ : ∃ g o, s = some ⟨g, o, none⟩ ∧ wr.cell? ⟨g, o + j, none⟩ = some (.int .i64 n) := by
          rcases (HA.out.1.below (HBW.out.trans (HL.out.below.mono (by have := HSA.out; omega)))).cells with h0 | ⟨g, o, hs, hc⟩
          · omega
          · exact ⟨g, o, hs, hc j n hn⟩
        clear hn
        go_wp2_with fail
        refine ((HL.out.push 0 hok.out).mono ?_)
        rw [push_first (by omega)]
        rintro e w3 ⟨rfl, h3, k3⟩
        have H3 := Lib.hid h3
        have X3 := Lib.hid (show Boxed w3 X 23 (.pointer (some ⟨b, 0, none⟩)) from (k3 X (by simp)).trans HX.out)
        clear h3 k3 hc hcx
        go_wp2
        go_roundw
        case rel => exact ⟨j + 1, sieve n W ++ [n], by omega, by go_num, by have := sieve_len n W; simp; omega, H3, X3⟩
        case measure => simp [intOf]; omega
      · obtain rfl : l = j := by omega
        clear hj hlt
        go_wp2_with fail
        refine ((HL.out.list 0 (-1)).mono ?_)
        rw [show cutM (-1) (rowS 0 [W, []]) = W from rfl]
        rintro e w3 ⟨v8, rfl, hn, hb⟩
        obtain ⟨a8, c8, rfl⟩ := hn.form
        have hbox3 := (hb.block X (HL.out.lt (by simp))).trans HX.out
        have hwr := HL.out.below.size
        have H3 := Lib.hid (show LiveR wa w3 b [W, []] (X :: (Value.slice a8 W.length c8).ownBlock.toList) from HL.out.own (Kept.of_below hb) fun g hg => by
          rcases List.mem_cons.1 hg with rfl | hg
          · exact .inl (by simp)
          · exact .inr (hn.lt (by simpa using hg)))
        have X3 := Lib.hid (show Boxed w3 X 23 (.pointer (some ⟨b, 0, none⟩)) from hbox3)
        have N3 := Lib.hid (show Nums w3 wa.heap.size (.slice a8 W.length c8) W from hn.lower hwr)
        clear hn hb hbox3 hcx HL HX
        go_wp2_with fail
        go_loopw [39] (fun i wr => ∃ t : Nat, t ≤ W.length ∧ i = .int .i64 t ∧ Hid (LiveR wa wr b [W.drop t ++ W.take t, []] (X :: (Value.slice a8 W.length c8).ownBlock.toList)) ∧ Hid (Boxed wr X 23 (.pointer (some ⟨b, 0, none⟩))) ∧ Hid (Nums wr wa.heap.size (.slice a8 W.length c8) W)) (fun i _ => W.length - (intOf i).toNat)
        case atStart => exact ⟨0, by omega, rfl, by simpa using H3, X3, N3⟩
        case round =>
          obtain ⟨t, ht, rfl, HL2, HX2, HN2⟩ := hrel
          have hcx := HX2.out.cell
          by_cases htl : t < W.length
          · obtain ⟨x, r, e1, e2⟩ := rot_step htl
            rw [e1] at HL2
            have HE := Lib.hid e2
            clear e1 e2
            go_wp2_with fail
            refine ((HL2.out.turn 0).mono ?_)
            rw [turn_two, HE.out, show (rowS 0 [x :: r, []]).isEmpty = false from rfl, Bool.not_false]
            rintro e w4 ⟨rfl, h4, k4⟩
            have H4 := Lib.hid h4
            have X4 := Lib.hid (show Boxed w4 X 23 (.pointer (some ⟨b, 0, none⟩)) from (k4 X (by simp)).trans HX2.out)
            have N4 := Lib.hid (HN2.out.kept (w' := w4) fun g hg => k4 g (by simp [hg]))
            clear h4 k4 hcx
            go_wp2
            go_roundw
            case rel => exact ⟨t + 1, by omega, by go_num, H4, X4, N4⟩
            case measure => simp [intOf]; omega
          · obtain rfl : t = W.length := by omega
            rw [List.drop_length, List.take_length, List.nil_append] at HL2
            clear ht htl
            go_wp2_with fail
            refine ((HL2.out.list 0 (-1)).mono ?_)
            rw [show cutM (-1) (rowS 0 [W, []]) = W from rfl]
            rintro e w4 ⟨v46, rfl, hn, hb⟩
            obtain ⟨a46, c46, rfl⟩ := hn.form
            have H4 := Lib.hid (HL2.out.past hb)
            have X4 := Lib.hid (show Boxed w4 X 23 (.pointer (some ⟨b, 0, none⟩)) from (hb.block X (HL2.out.lt (by simp))).trans HX2.out)
            have N4 := Lib.hid (HN2.out.kept (w' := w4) fun g hg => hb.block g (HN2.out.lt hg).2)
            have I46 := Lib.hid hn.ints
            clear hn hb hcx HL2 HX2 HN2
            go_wp2_with fail
            refine ((ints_of _ _ _ _ _ _ _ W W (by omega) (by omega) I46.out N4.out.ints).mono ?_)
            rw [show decide (W = W) = true by simp]
            rintro e w5 ⟨rfl, hb⟩
            have H5 := Lib.hid (H4.out.past hb)
            have X5 := Lib.hid (show Boxed w5 X 23 (.pointer (some ⟨b, 0, none⟩)) from (hb.block X (H4.out.lt (by simp))).trans X4.out)
            have N5 := Lib.hid (N4.out.kept (w' := w5) fun g hg => hb.block g (N4.out.lt hg).2)
            have hcx := X5.out.cell
            clear hb H4 X4 N4
            go_wp2_with fail
            refine ((H5.out.all 0).mono ?_)
            rw [show rowS 0 [W, []] = W from rfl]
            rintro e w6 ⟨B3, v3, rfl, hc3, hn3, hB3, hB3', hv3, hb⟩
            obtain ⟨a3, c3, rfl⟩ := hn3.form
            have hq := eql_func_nil w6 (.func 55) #[] #[.pointer (some ⟨B3, 0, none⟩)]
            have H6 := Lib.hid (show LiveR wa w6 b [W, []] (X :: ((Value.slice a8 W.length c8).ownBlock.toList ++ (Value.slice a3 W.length c3).ownBlock.toList)) from H5.out.own (Kept.of_below hb) fun g hg => by
              rcases List.mem_cons.1 hg with rfl | hg
              · exact .inl (by simp)
              · rcases List.mem_append.1 hg with hg | hg
                · exact .inl (List.mem_cons_of_mem _ hg)
                · exact .inr (hn3.lt (by simpa using hg)))
            have X6 := Lib.hid (show Boxed w6 X 23 (.pointer (some ⟨b, 0, none⟩)) from (hb.block X (H5.out.lt (by simp))).trans X5.out)
            have N6 := Lib.hid (N5.out.kept (w' := w6) fun g hg => hb.block g (N5.out.lt hg).2)
            have NI6 := Lib.hid hn3
            have I6 := Lib.hid hn3.ints
            have C3 := Lib.hid hc3
            have W56 := Lib.hid (show w5.heap.size ≤ w6.heap.size from hb.size)
            have hWl : W.length ≤ 200 := by omega
            clear hcx hc3 hn3 hv3 hb H5 X5 N5 hB3 I46
            go_wp2_with fail
            obtain ⟨zs, hzs⟩ := lift_ok W (fun y hy => H6.out.ok (by simpa using hy))
            have hzl : zs.length = W.length := by rw [← hzs, List.length_map]
            obtain ⟨R0, hR0⟩ : ∃ R0, R0 = X :: ((Value.slice a8 W.length c8).ownBlock.toList ++ (Value.slice a3 W.length c3).ownBlock.toList) := ⟨_, rfl⟩
            have hH6 : LiveR wa w6 b [W, []] R0 := by rw [hR0]; exact H6.out
            have hR0X : X ∈ R0 := by rw [hR0]; simp
            have hR08 : ∀ g, (Value.slice a8 W.length c8).ownBlock = some g → g ∈ R0 := fun g hg => by rw [hR0]; simp [hg]
            have hR03 : ∀ g, g ∈ (Value.slice a3 W.length c3).ownBlock.toList → g ∈ R0 := fun g hg => by rw [hR0]; exact List.mem_cons_of_mem _ (List.mem_append_right _ hg)
            have hlt0 : ∀ g, g ∈ R0 → g < w6.heap.size := fun g hg => hH6.lt hg
            have hbA : Below w6.heap.size w6 (w6.alloc (.cells #[.slice none 0 0] 34)) := (Below.refl _ _).alloc (Nat.le_refl _) _
            have hszB : (w6.alloc (.cells #[.slice none 0 0] 34)).heap.size = w6.heap.size + 1 := by simp
            have bO := Boxed.new w6 34 (.slice none 0 0)
            have hwa6 := hH6.below.size
            have hLB : LiveB wa (w6.alloc (.cells #[.slice none 0 0] 34)) b [W, []] (R0 ++ w6.heap.size :: (Value.slice none 0 0).ownBlock.toList) (w6.heap.size + 1) :=
              (hH6.own ((Kept.refl _ _).alloc _) fun g hg => by
                rcases List.mem_append.1 hg with hg | hg
                · exact .inl hg
                · simp [Value.ownBlock] at hg
                  subst hg
                  exact .inr ⟨Nat.le_refl _, by simp⟩).toB (by simp)
            have hXB : Boxed (w6.alloc (.cells #[.slice none 0 0] 34)) X 23 (.pointer (some ⟨b, 0, none⟩)) := X6.out.alloc _
            have hN8 : Nums (w6.alloc (.cells #[.slice none 0 0] 34)) wa.heap.size (.slice a8 W.length c8) W := World.ownsRow.alloc N6.out _
            have hIB : Ints (w6.alloc (.cells #[.slice none 0 0] 34)) a3 W.length W := I6.out.below hbA
            have hCB := (hbA.cell (p := ⟨B3, 0, none⟩) hB3').trans C3.out
            have hG : ∀ a, a3 = some a → zs.length ≠ 0 → a.block ∈ (Value.slice a3 W.length c3).ownBlock.toList := by
              intro a ha _
              rw [ha]
              simp [Value.ownBlock]
            clear hq H6 X6 N6 NI6 I6 C3 W56 hB3' hR0 hbA hH6
            generalize w6.alloc (.cells #[.slice none 0 0] 34) = wB at *
            generalize w6.heap.size = Bl at *
            have hown := LastI.from (b := b) (W := W) (fun x : {x : Int // okK x} => x.1) (by omega) hszB hlt0 (wa := wa)
            have hI0 : LastI wa wB b Bl R0 W [] wB := ⟨⟨_, bO, World.ownsRow_nil _ _ _ _, W, [], hLB, fun y hy => ⟨hy, by simp⟩, by simp⟩, fun g hg => rfl, by omega⟩
            obtain ⟨i0, hi, hz0, hz1, hz2⟩ := info_parts info_int
            clear hLB bO
            refine (wpIn_wide (n := 9)).1 ?_
            refine wpIn_rangeFunc_ownG rfl (by omega) (gf := 55) (lb := #[.pointer (some ⟨B3, 0, none⟩)]) rfl trivial (enters_of Try.func55 (by kernel_rfl) rfl)
              (values_stops (fun x : {x : Int // okK x} => x.1) 8 (by omega) B3 a3 c3 zs (by omega) (Value.slice a3 W.length c3).ownBlock.toList hG _ (by rw [hzl]; exact hCB) (by rw [hzl, hzs]; exact hIB)) (fun h k => kpB_t h k) (kpB_b (by intro k hk; have := hlt0 k (hR03 k hk); omega)) (Below.refl _ _) (fun _ => rfl)
              (fun (pre : List {x : Int // okK x}) Wd => LastI wa wB b Bl R0 W (pre.map (fun x => x.1)) Wd)
              (fun _ _ _ => False) hown (fun _ _ _ _ _ hs _ _ => hs) hI0
              (fun x => { tmps := #[.slice s l c, .int .u64 m, undef, .pointer (some ⟨w.heap.size, 0, none⟩), u4, .pointer (some ⟨X, 0, none⟩), undef, u7, .slice a8 W.length c8, .func (.func 55) #[] #[.pointer (some ⟨B3, 0, none⟩)], .pointer (some ⟨Bl, 0, none⟩), .int .i64 x.1, .pointer (some ⟨b, 0, none⟩), .pointer (some ⟨b, 0, none⟩), .bool false, .bool false, .slice s l c, .int .i64 l, .bool false, .bool false, undef, undef, undef, undef, undef, .slice s l c, .int .i64 l, .int .i64 l, .bool false, u29, u30, u31, u32, u33, u34, .pointer (some ⟨b, 0, none⟩), .slice a8 W.length c8, .slice a8 W.length c8, .int .i64 W.length, .int .i64 W.length, .bool false, u41, u42, u43, u44, .pointer (some ⟨b, 0, none⟩), .slice a46 W.length c46, .slice a8 W.length c8, .bool true, .bool false, .pointer (some ⟨b, 0, none⟩), .func (.func 55) #[] #[.pointer (some ⟨B3, 0, none⟩)], .func (.func 55) #[] #[.pointer (some ⟨B3, 0, none⟩)], .bool false, .func (.func 55) #[] #[.pointer (some ⟨B3, 0, none⟩)], .int .i64 x.1, undef, undef, undef, undef, undef, undef, undef, undef, undef, undef, undef, undef, undef, undef, undef, undef, undef, undef, undef, undef, undef, undef], defers := [] }) ?assign ?body ?done ?stop
            case assign =>
              intro lp x Wd K hK
              gi_wp2
              exact hK
            case body =>
              rintro lp pre x Wd hI hlt
              obtain ⟨ps, hps⟩ : ∃ ps, pre.map (fun x => x.1) = ps := ⟨_, rfl⟩
              have hpl : ps.length < W.length := by rw [← hps, List.length_map]; omega
              rw [hps] at hI
              have HPS := Lib.hid hps
              obtain ⟨⟨v, hv, hN, A, C, hL, hA', hlen⟩, hst, hsz⟩ := hI
              obtain ⟨aq, cc, rfl⟩ := hN.form
              have hc := hv.cell
              have hcx := Boxed.cell (show Boxed Wd X 23 (.pointer (some ⟨b, 0, none⟩)) from (hst X hR0X).trans hXB)
              have hcm := Boxed.cell (show Boxed Wd w.heap.size 42 (.int .u64 m) from (hL.below.block _ (by have := HSA.out; omega)).trans HMO.out)
              have hn0 : Bl ≤ Wd.heap.size := by omega
              have hrow0 := hN.lower (base' := Bl) (by omega)
              have hAC : A.length + C.length < 4096 := by omega
              have hrowW : Wd.ownsRow (Bl + 1) 3 1 (.slice aq ps.length cc) ps.length (ps.map (Value.int .i64)) := hN
              have HA2 := Lib.hid hA'
              have HLEN := Lib.hid hlen
              have HL2 := Lib.hid hL
              have HST := Lib.hid hst
              have HN2 := Lib.hid hN
              clear hps hA' hlen hL hst
              gi_wp2_with (gi_at_builtin; go_loud (refine wpListIn_append_own_at _ rfl _ _ 34 rfl (Bl + 1) 3 i0 (.int .i64 0) 1 8 Try.underlying34 hi hz0 hz1 hz2 rfl (by decide) (.slice aq ps.length cc) ps.length (ps.map (Value.int .i64)) rfl (hrowW.alloc _) ⟨Wd.heap.size, 0, none⟩ 1 1 [.int .i64 x.1] rfl rfl (cell_one_new _ _ _) (by simp [Value.oneCell']) (by unfold maxLen; omega) (by omega) (by simp; omega) ?_; intro v' w7 hown' hgrow _ hat; obtain ⟨g', cap', rfl⟩ := ownsRow_succ hown'; obtain ⟨hv1, hv2, hr2, hk2, hb2⟩ := hv.appended (by decide) hrow0 hn0 (Nat.le_refl _) (Nums.lower (base := Bl + 1) (xs := ps ++ [x.1]) (by unfold Nums; simpa using hown') (by omega)) hgrow; have hc1 := hv1.cell; have hf1 := hv1.frozen; obtain ⟨hL3, hS3, hZ3⟩ := lasts_append (B := Bl + 1) (R0 := R0) hgrow hat hown' HL2.out hlt0 (fun g hg => (HN2.out.lt hg).1); have HL3 := Lib.hid hL3; have HS3 := Lib.hid hS3; have HZ3 := Lib.hid hZ3; have hcx3 := Boxed.cell (show Boxed (w7.setCell ⟨Bl, 0, none⟩ (.slice (some ⟨g', 0, none⟩) (ps.length + 1) cap')) X 23 (.pointer (some ⟨b, 0, none⟩)) from (hS3 X hR0X).trans ((HST.out X hR0X).trans hXB)); have HN3 := Lib.hid (show Nums (w7.setCell ⟨Bl, 0, none⟩ (.slice (some ⟨g', 0, none⟩) (ps.length + 1) cap')) (Bl + 1) (.slice (some ⟨g', 0, none⟩) (ps.length + 1) cap') (ps ++ [x.1]) from nums_kept hown' (grownBy_setCell' w7 Bl (.slice (some ⟨g', 0, none⟩) (ps.length + 1) cap')) (.inr (hv1.not_row (by decide) hown').symm)); have HV2 := Lib.hid hv2; have HK2 := Lib.hid (hk2.from (Bl + 1)); clear hL3 hS3 hZ3 hown' hgrow hat hr2 hb2 hk2 hv2 hcx hcm))
              refine ⟨trivial, ?_⟩
              refine (CallsIn.inRound lp (callsIn_wide.2 (HL3.out.push 1 x.2))).mono ?_
              rw [push_second hAC]
              rintro e w8 ⟨rfl, hL8, hs8, hk8⟩
              have hcx8 := Boxed.cell (show Boxed w8 X 23 (.pointer (some ⟨b, 0, none⟩)) from (hs8 X (List.mem_append_left _ hR0X)).trans ((HS3.out X hR0X).trans ((HST.out X hR0X).trans hXB)))
              have hcm8 := Boxed.cell (show Boxed w8 w.heap.size 42 (.int .u64 m) from (hL8.below.block _ (by have := HSA.out; omega)).trans HMO.out)
              have HL8 := Lib.hid hL8
              have HS8 := Lib.hid hs8
              have HK8 := Lib.hid hk8
              clear hL8 hs8 hk8 hcx3
              gi_wp2_with fail
              refine ⟨trivial, ?_⟩
              refine (CallsIn.inRound lp (callsIn_wide.2 (HL8.out.remove (x := wrap64 m) (wrap64_wf m)))).mono ?_
              rw [rmv_two]
              rintro e w9 ⟨rfl, hL9, hs9, hk9⟩
              have HL9 := Lib.hid hL9
              have HS9 := Lib.hid hs9
              have HK9 := Lib.hid hk9
              clear hL9 hs9 hk9 hcx8 hcm8
              gi_wp2
              refine ⟨by rw [hszB]; exact (HK2.out.trans HK8.out).trans HK9.out, ?_, ?_⟩
              · intro k hk
                have hk0 := hR03 k hk
                exact ((HS9.out k (List.mem_append_left _ hk0)).trans (HS8.out k (List.mem_append_left _ hk0))).trans (HS3.out k hk0)
              · show LastI wa wB b Bl R0 W ((pre ++ [x]).map (fun x => x.1)) w9
                rw [List.map_append, HPS.out]
                exact LastI.next HV2.out HN3.out (HST.out.tr HS3.out) (by have := HZ3.out; omega) HS8.out HK8.out.size HS9.out HK9.out.size HL9.out HA2.out HLEN.out
            case done =>
              rintro D ys Wd hD rfl ⟨⟨v, hv, hN, A, C, hL, hA', hlen⟩, hst, hsz⟩ hK
              rw [hzs] at hN hA' hlen
              have hA0 : A = [] := List.eq_nil_iff_forall_not_mem.2 fun y hy => (hA' y hy).2 (hA' y hy).1
              subst hA0
              obtain ⟨aq, cq, rfl⟩ := hN.form
              have hc := hv.cell
              have hcx := Boxed.cell (show Boxed Wd X 23 (.pointer (some ⟨b, 0, none⟩)) from (hst X hR0X).trans hXB)
              have hD1 : wa.heap.size ≤ D := by omega
              have HI := Lib.hid hN.ints
              have H8 := Lib.hid (hN8.kept (w' := Wd) fun g hg => hst g (hR08 g hg)).ints
              have HX := Lib.hid (show Boxed Wd X 23 (.pointer (some ⟨b, 0, none⟩)) from (hst X hR0X).trans hXB)
              have HL := Lib.hid hL.toR
              have HKD := Lib.hid hK
              have hXl : X < Wd.heap.size := Nat.lt_of_lt_of_le (hlt0 X hR0X) (by omega)
              clear hA' hlen hst hK hL hN
              go_wp2_with fail
              refine ((ints_of _ _ _ _ _ _ _ W W (by omega) (by omega) HI.out H8.out).mono ?_)
              rw [show decide (W = W) = true by simp]
              rintro e w8 ⟨rfl, hb⟩
              have HL8 := Lib.hid (HL.out.past hb)
              have hcx8 := Boxed.cell (show Boxed w8 X 23 (.pointer (some ⟨b, 0, none⟩)) from (hb.block X hXl).trans HX.out)
              have HB8 := Lib.hid hb
              clear hb hcx hc
              go_wp2_with fail
              refine ((HL8.out.len 0).mono ?_)
              rw [show (rowS 0 [[], C]).length = 0 from rfl]
              rintro e w9 ⟨rfl, rfl⟩
              go_wp2_with fail
              refine ((lives_ok _).mono ?_)
              rintro e w10 ⟨rfl, hb⟩
              have HB10 := Lib.hid hb
              clear hb
              go_wp2
              have hDlt : D < Wd.heap.size := (Array.getElem?_eq_some_iff.1 HKD.out).1
              have hs8 := HB8.out.size
              have hs7 := HL8.out.below.size
              have hsa := HSA.out
              have hK' : w10.heap[D]? = some (.deferred (some [])) := (HB10.out.block D (by omega)).trans ((HB8.out.block D hDlt).trans HKD.out)
              refine ⟨by simp, .inl ⟨_, _, rfl, run_takeDeferred hK', ?_⟩⟩
              have hbw : Below w.heap.size w w10 := HBW.out.trans ((HL8.out.below.trans (HB10.out.mono hs7)).mono (by omega))
              exact ⟨_, results_tmp rfl _ _ _, rfl, hbw.trans (belowK_b (w := w) (Nat.le_refl _) w10 D _ _ (by omega) hK' rfl rfl)⟩
            case stop =>
              rintro D c pre W _ _ h _
              exact h.elim
end Go.Proofs.Ytnjpdcoahojgbaa.RInt
