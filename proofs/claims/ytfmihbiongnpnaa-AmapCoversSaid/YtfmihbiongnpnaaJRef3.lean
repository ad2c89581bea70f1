/- The document's counts of layer 11: Add. -/
import Derived.Test.YtfmihbiongnpnaaJRef2
import Derived.Test.YtfmihbiongnpnaaJStep
namespace Go.Proofs.Ytfmihbiongnpnaa
open Go.ChangeShapes Go.WideShapes Go.ChangeAt Go.RowKit Go.Deep
set_option linter.unusedVariables false

/-- In the loop: the new list, and those that became 0. -/
structure AddI (w wr : World) (g c : Nat) (v : Value) (M G : List Int) : Prop where
  grown : w.grownBy wr none
  own : ZOwn wr w.heap.size (.slice (some ⟨g, 0, none⟩) M.length c) M
  gone : ZOwn wr w.heap.size v G
  ne : v.ownBlock ≠ some g
section
variable {w wr w2 : World} {g c : Nat} {v : Value} {M G : List Int}
theorem AddI.glt (h : AddI w wr g c v M G) : g < wr.heap.size := (OwnOf.lt h.own (g := g) rfl).2
theorem AddI.grow (h : AddI w wr g c v M G) (k : wr.grownBy w2 none) : AddI w w2 g c v M G := ⟨grown_trans h.grown k, OwnOf.grow h.own k, OwnOf.grow h.gone k, h.ne⟩
theorem AddI.set (h : AddI w wr g c v M G) (i : Nat) (x : Int) : AddI w (wr.setCell ⟨g, i, none⟩ (.int .i64 x)) g c v (M.set i x) G := by
  refine ⟨grown_at h.grown (grown_set _ _ _ _) (OwnOf.lt h.own (g := g) rfl).1, ?_, OwnOf.kept h.gone fun b hb => heap_setCell_other wr _ _ _ (by first | exact fun e => h.ne (by rw [hb]; exact congrArg some e) | exact fun e => h.ne (by rw [hb]; exact congrArg some e.symm)), h.ne⟩
  rw [List.length_set]
  exact ZOwn.set h.own i x
theorem AddI.app {o : Obj} {v2 : Value} {G2 : List Int} (h : AddI w wr g c v M G) (k : (wr.alloc o).grownBy w2 v.ownBlock) (hown : ZOwn w2 w.heap.size v2 G2) (hb : v2.ownBlock = v.ownBlock ∨ ∃ b, v2.ownBlock = some b ∧ wr.heap.size ≤ b) : AddI w w2 g c v2 M G2 := by
  have ga := World.grownBy_alloc wr o none
  have hg := h.glt
  refine ⟨grown_own (grown_trans h.grown ga) k fun x hx => (OwnOf.lt h.gone hx).1, OwnOf.kept (OwnOf.grow h.own ga) fun b hb2 => ?_, hown, ?_⟩
  · have e : g = b := by simpa [Value.ownBlock] using hb2
    subst e
    exact k.block g (Nat.lt_of_lt_of_le hg ga.size) (fun e => h.ne e.symm)
  · rcases hb with e | ⟨b, e, hb2⟩
    · rw [e]; exact h.ne
    · rw [e]; intro e2; injection e2 with e2; omega
theorem AddI.done {q : Nat} {u : Value} (h : AddI w wr g c v M G) (hq : q < w.heap.size) : RowOf zCells 1 (wr.setCell ⟨q, 0, none⟩ u) v G := by
  refine OwnOf.row (OwnOf.kept h.gone fun b hb => heap_setCell_other wr _ _ _ ?_)
  have h1 := (OwnOf.lt h.gone hb).1
  first
    | exact fun e => by (have e : q = b := e); omega
    | exact fun e => by (have e : b = q := e); omega
end
/-- 'append(l, n)', and where the new row lies. -/
theorem wpList_zpush2 {ops : Array Oper} {rest : List Oper} {o : Oper} {a : Act} {Q : Exit → Act → World → Prop} (w : World) (hgd : o.guard = none) (s x : Operand)
    (ho : o.op = .call { callee := .builtin .append, args := #[s, x], argTypes := #[39, 39] }) (base : Nat) (v : Value) (xs : List Int) (y : Int) (hs : a.eval s = v) (h : ZOwn w base v xs) (H c : Nat)
    (hx : a.eval x = .slice (some ⟨H, 0, none⟩) 1 c) (hH : w.heap.size = H) (hl : xs.length ≤ 1000000) (hbase : base ≤ H)
    (hK : ∀ g cap w', ZOwn w' base (.slice (some ⟨g, 0, none⟩) (xs.length + 1) cap) (xs ++ [y]) → (w.alloc (.cells #[.int .i64 y] 3)).grownBy w' v.ownBlock → ((some g = v.ownBlock) ∨ ∃ b, some g = some b ∧ w.heap.size ≤ b) → wpList Try.prog ops Q rest (a.put o.dst (.slice (some ⟨g, 0, none⟩) (xs.length + 1) cap)) w') :
    wpList Try.prog ops Q (o :: rest) a (w.alloc (.cells #[.int .i64 y] 3)) := by
  obtain ⟨i0, hi, hz0, hz1, hz2⟩ := info_parts info_int11
  subst hH
  refine wpList_append_own_at _ hgd s x 39 ho base 3 i0 (.int .i64 0) 1 8 Try.underlying39 hi hz0 hz1 hz2 rfl (by decide) v xs.length (xs.flatMap zCells) hs (World.ownsRow.alloc h _) ⟨w.heap.size, 0, none⟩ 1 c (zCells y) hx rfl ?_ ?_ (by unfold maxLen; omega) (by omega) (by simp; omega) ?_
  · exact World.news_of_block (heap_alloc_new w _)
  · intro u hu; simp [zCells] at hu; rw [hu]; rfl
  · intro v' w' hown hgrow hnil hat
    obtain ⟨g, cap, hvf⟩ : ∃ g cap, v' = .slice (some ⟨g, 0, none⟩) (xs.length + 1) cap := by
      rcases hown.2 with ⟨_, h0⟩ | ⟨g, cap, _, rfl, _⟩
      · omega
      · exact ⟨g, cap, rfl⟩
    subst hvf
    refine hK g cap w' ?_ hgrow ?_
    · unfold ZOwn OwnOf
      simp only [List.length_append, List.length_cons, List.length_nil, List.flatMap_append, List.flatMap_cons, List.flatMap_nil, List.append_nil]
      exact hown
    · rcases hat with e | e
      · exact .inl e
      · exact .inr ⟨_, e, by rw [World.size_alloc]; omega⟩

section
variable {w : World} {q g c : Nat} {L : List Int}
theorem addJ_no {lo hi by_ : Int} (h : ¬ mayJ L lo hi by_) : addJ L lo hi by_ = ([], 2, L) := by unfold addJ; rw [if_neg h]
theorem addJ_yes {lo hi by_ : Int} (h : mayJ L lo hi by_) : addJ L lo hi by_ = (goneJ L lo hi by_, 0, moreJ L lo hi by_) := by unfold addJ; rw [if_pos h]

/-- What Add answers. -/
def AddA (w : World) (P : World → List Int → Prop) (L : List Int) (lo hi by_ : Int) (e : Ending) (w' : World) : Prop :=
  ∃ u, e = .returned (.tuple #[u, .int .i64 (addJ L lo hi by_).2.1]) ∧ RowOf zCells 1 w' u (addJ L lo hi by_).1 ∧ (∀ b, u.ownBlock = some b → w.heap.size ≤ b) ∧ P w' (addJ L lo hi by_).2.2
theorem addA_no {w' : World} {P : World → List Int → Prop} {lo hi by_ : Int} (h : ¬ mayJ L lo hi by_) (hP : P w' L) : AddA w P L lo hi by_ (.returned (.tuple #[.slice none 0 0, .int .i64 2])) w' := by
  unfold AddA
  rw [addJ_no h]
  exact ⟨.slice none 0 0, rfl, RowAt.nil _ _, (fun b hb => by cases hb), hP⟩
theorem addA_yes {w' : World} {P : World → List Int → Prop} {lo hi by_ : Int} {u : Value} (h : mayJ L lo hi by_) (hu : RowOf zCells 1 w' u (goneJ L lo hi by_)) (hb : ∀ b, u.ownBlock = some b → w.heap.size ≤ b) (hP : P w' (moreJ L lo hi by_)) : AddA w P L lo hi by_ (.returned (.tuple #[u, .int .i64 0])) w' := by
  unfold AddA
  rw [addJ_yes h]
  exact ⟨u, rfl, hu, hb, hP⟩
set_option maxHeartbeats 4000000 in
theorem rj_add (h : RJ w q g c L) (hk : JOk L) (lo hi by_ : Int) (hlo : okI lo) (hhi : okI hi) (hby : okI by_) :
    Calls Try.prog 35 #[.pointer (some ⟨q, 0, none⟩), .int .i64 lo, .int .i64 hi, .int .i64 by_] w (AddA w (fun w' L' => LR w w' q [q, g] L') L lo hi by_) := by
  have l0 := h.at
  have hl := hk.len
  have hcap := h.cap
  have HR := Lib.hid h
  have HK := Lib.hid hk
  clear h hk
  by_cases hr : 0 ≤ lo ∧ hi ≤ L.length ∧ lo ≤ hi
  · obtain ⟨a, rfl⟩ := Int.eq_ofNat_of_zero_le hr.1
    obtain ⟨b, rfl⟩ := Int.eq_ofNat_of_zero_le (show 0 ≤ hi by omega)
    have hab : a ≤ b := by omega
    have hbl : b ≤ L.length := by omega
    have d0 : decide ((a : Int) < 0) = false := decide_eq_false (by omega)
    have d1 : decide ((b : Int) > (L.length : Int)) = false := decide_eq_false (by omega)
    have d2 : decide ((a : Int) > (b : Int)) = false := decide_eq_false (by omega)
    obtain ⟨d, hd⟩ : ∃ d : Bool, decide (mayJ L a b by_) = d := ⟨_, rfl⟩
    have HD := Lib.hid hd
    obtain ⟨m, rfl⟩ : ∃ m, b = a + m := ⟨b - a, by omega⟩
    clear hr hd hlo hhi
    obtain ⟨hb0, hb1⟩ := hby
    rcases (show ¬ c = a ∨ (a = c ∧ m = 0) by omega) with hca | ⟨rfl, hm0⟩
    all_goals
      have HMT := Lib.hid (show ∀ j, j < m → L[a + j]? = some (L.getD (a + j) 0) from fun j hj => by rw [List.getElem?_eq_getElem (by omega), List.getD_eq_getElem?_getD, List.getElem?_eq_getElem (by omega)]; rfl)
      go_enter Try.func35, Try.ntmps35
      go_wp2_with fail
      go_loopw [11, 40] (fun _ iv wr => ∃ j : Nat, j ≤ m ∧ iv = .int .i64 j ∧ Hid (∀ i, i < j → 0 ≤ L.getD (a + i) 0 + by_ ∧ L.getD (a + i) 0 + by_ ≤ 1000000) ∧ Hid (w.grownBy wr none)) (fun _ iv _ => m - (intOf iv).toNat)
      case atStart => exact ⟨0, by omega, rfl, fun i hi => by omega, grown_refl _ _⟩
      case round =>
        obtain ⟨j, hj, rfl, HI, HG⟩ := hrel
        have l1 := (HR.out.grow HG.out).at
        by_cases hlt : j < m
        · have hx := HMT.out j hlt
          have hc := (HR.out.grow HG.out).get hx
          have hx0 := HK.out.lo _ (List.mem_of_getElem? hx)
          have hx1 := HK.out.hi _ (List.mem_of_getElem? hx)
          obtain ⟨x, hxe⟩ : ∃ x, L.getD (a + j) 0 = x := ⟨_, rfl⟩
          rw [hxe] at hx hc hx0 hx1
          by_cases hok : 0 ≤ x + by_ ∧ x + by_ ≤ 1000000
          · have e1 : decide (by_ < -x) = false := decide_eq_false (by omega)
            have e2 : decide (by_ > 1000000 - x) = false := decide_eq_false (by omega)
            have HN := Lib.hid (show ∀ i, i < j + 1 → 0 ≤ L.getD (a + i) 0 + by_ ∧ L.getD (a + i) 0 + by_ ≤ 1000000 from fun i hi => by
              by_cases e : i = j
              · subst e; rw [hxe]; exact hok
              · exact HI.out i (by omega))
            clear hok hx hxe
            first
              | (exfalso; omega)
              | (go_wp2_with fail
                 go_roundw
                 case rel => exact ⟨j + 1, by omega, by go_num, HN, HG⟩
                 case measure => simp [intOf]; omega)
          · have HN := Lib.hid (show ¬ mayJ L a ((a + m : Nat) : Int) by_ from fun k => hok (by have := k.2 (a + j) (by omega) ⟨by omega, by omega⟩; rwa [hxe] at this))
            have HRes := Lib.hid (HR.out.same HG.out)
            rcases (show by_ < -x ∨ (¬ by_ < -x ∧ by_ > 1000000 - x) by omega) with e1 | ⟨e1, e2⟩
            all_goals
              clear hok hx hxe
              first
                | (exfalso; omega)
                | (go_wp2_with fail
                   go_ret2
                   exact addA_no HN.out HRes.out)
        · obtain rfl : j = m := by omega
          have HM := Lib.hid (show mayJ L a ((a + j : Nat) : Int) by_ from ⟨⟨by omega, by omega, by omega⟩, fun i hi hin => by
            obtain ⟨h1, h2⟩ := hin
            obtain ⟨k, rfl⟩ : ∃ k, i = a + k := ⟨i - a, by omega⟩
            exact HI.out k (by omega)⟩)
          have ga := World.grownBy_alloc wr (.cells #[] 3) none
          have ha := (HR.out.grow HG.out).grow ga
          have HA := Lib.hid ha
          have l2 := ha.at
          have l1 := (HR.out.grow HG.out).at
          clear ga ha
          go_wp2_with (at_builtin; refine wpList_zcopy wr rfl _ _ rfl _ L wr.heap.size rfl rfl rfl (OwnOf.row HA.out.row) (by omega) ?_; intro g8 c8 w8 hown8 hg8; have HO8 := Lib.hid hown8; have HG8 := Lib.hid hg8; clear hown8 hg8)
          have HI8 := Lib.hid (show AddI w w8 g8 c8 (.slice none 0 0) (moreJ L a (a : Int) by_) (goneJ L a (a : Int) by_) from by
            rw [moreJ_none, goneJ_none]
            exact ⟨grown_trans HG.out HG8.out, OwnOf.lower HO8.out HG.out.size, OwnOf.nil _ _, by simp [Value.ownBlock]⟩)
          have HLen := Lib.hid (fun x : Int => (moreJ_len : (moreJ L a x by_).length = L.length))
          have HX := Lib.hid (fun i (hi : i < L.length) => (moreJ_here (by_ := by_) (lo := (a : Int)) hi))
          have HSt := Lib.hid (fun i (h0 : a ≤ i) (hi : i < L.length) => (moreJ_step (L := L) (lo := (a : Int)) (by_ := by_) (i := i) (by omega) hi))
          have HGo := Lib.hid (fun i (h0 : a ≤ i) (hi : i < L.length) => (goneJ_step (L := L) (lo := (a : Int)) (by_ := by_) (i := i) (by omega) hi))
          have HGl := Lib.hid (fun i : Nat => goneJ_len L a i by_)
          have HB := Lib.hid (fun i (h0 : a ≤ i) (h1 : i < a + j) => HM.out.2 i (by omega) ⟨by omega, by omega⟩)
          clear HI HG HO8 HG8 l1 l2 HA
          go_wp2_with fail
          go_loopw [13, 14, 15] (fun gv iv _ wr => ∃ i : Nat, a ≤ i ∧ i ≤ a + j ∧ iv = .int .i64 i ∧ Hid (AddI w wr g8 c8 gv (moreJ L a (i : Int) by_) (goneJ L a (i : Int) by_))) (fun _ iv _ _ => a + j - (intOf iv).toNat)
          case atStart => exact ⟨a, by omega, by omega, rfl, HI8⟩
          case round =>
            clear HI8
            obtain ⟨i, hai, hij, rfl, HJ⟩ := hrel
            by_cases hlt : i < a + j
            · first
              | (exfalso; omega)
              | (
                  have hil : i < L.length := by omega
                  have hst := HSt.out i hai hil
                  have hgo := HGo.out i hai hil
                  have hgl := HGl.out i
                  obtain ⟨hb2, hb3⟩ := HB.out i hai hlt
                  have hxx := HX.out i hil
                  obtain ⟨M, hM⟩ : ∃ M, moreJ L a (i : Int) by_ = M := ⟨_, rfl⟩
                  obtain ⟨G, hG⟩ : ∃ G, goneJ L a (i : Int) by_ = G := ⟨_, rfl⟩
                  have hml : M.length = L.length := by rw [← hM]; exact HLen.out _
                  rw [hM] at hst hxx HJ
                  rw [hG] at hgo hgl HJ
                  have hx0 := HK.out.lo _ (getD_mem hil)
                  have hx1 := HK.out.hi _ (getD_mem hil)
                  obtain ⟨x, hxe⟩ : ∃ x, L.getD i 0 = x := ⟨_, rfl⟩
                  rw [hxe] at hst hgo hb2 hb3 hxx hx0 hx1
                  have hmi : M[i]? = some x := by
                    rw [List.getElem?_eq_getElem (by omega)]
                    rw [List.getD_eq_getElem?_getD, List.getElem?_eq_getElem (by omega)] at hxx
                    exact congrArg some hxx
                  have c1 := own_z HJ.out.own hmi
                  have f1 := OwnOf.frozen HJ.out.own i
                  have HJ2 := Lib.hid (HJ.out.set i (x + by_))
                  have c2 : (wr.setCell ⟨g8, i, none⟩ (.int .i64 (x + by_))).cell? ⟨g8, i, none⟩ = some (.int .i64 (x + by_)) := own_z HJ2.out.own (by rw [List.getElem?_set]; simp; omega)
                  obtain ⟨sa, sc, hgv⟩ := OwnOf.form HJ.out.gone
                  subst hgv
                  rw [← hst] at HJ2
                  clear hst hxx hmi hxe hM hG
                  by_cases hx00 : x = 0
                  · have e1 : (x != 0) = false := by simp [hx00]
                    rw [if_neg (fun k => k.1 hx00), List.append_nil] at hgo
                    have HGE := Lib.hid hgo
                    clear hgo hx00
                    go_wp2_with fail
                    go_roundw
                    case rel => exact ⟨i + 1, by omega, by omega, by go_num, by rw [show ((i + 1 : Nat) : Int) = (i : Int) + 1 by omega, HGE.out]; exact HJ2⟩
                    case measure => simp [intOf]; omega
                  · have e1 : (x != 0) = true := by simp [hx00]
                    by_cases hxz : x + by_ = 0
                    · have e2 : (x + by_ == 0) = true := by simp [hxz]
                      rw [if_pos ⟨hx00, hxz⟩] at hgo
                      have HGE := Lib.hid hgo
                      clear hgo hx00 hxz
                      go_wp2_with (at_builtin; refine wpList_zpush2 (wr.setCell ⟨g8, i, none⟩ (.int .i64 (x + by_))) rfl _ _ rfl w.heap.size _ G i (by rfl) HJ2.out.gone wr.heap.size _ (by rfl) (by simp) (by omega) HJ.out.grown.size ?_; intro g9 c9 w9 hown9 hg9 hat9)
                      have HJ3 := Lib.hid (HJ2.out.app hg9 hown9 hat9)
                      clear hown9 hg9 hat9
                      go_wp2_with fail
                      go_roundw
                      case rel => exact ⟨i + 1, by omega, by omega, by go_num, by rw [show ((i + 1 : Nat) : Int) = (i : Int) + 1 by omega, HGE.out]; exact HJ3⟩
                      case measure => simp [intOf]; omega
                    · have e2 : (x + by_ == 0) = false := by simp [hxz]
                      rw [if_neg (fun k => hxz k.2), List.append_nil] at hgo
                      have HGE := Lib.hid hgo
                      clear hgo hx00 hxz
                      go_wp2_with fail
                      go_roundw
                      case rel => exact ⟨i + 1, by omega, by omega, by go_num, by rw [show ((i + 1 : Nat) : Int) = (i : Int) + 1 by omega, HGE.out]; exact HJ2⟩
                      case measure => simp [intOf]; omega)
            · obtain rfl : i = a + j := by omega
              obtain ⟨M, hM⟩ : ∃ M, moreJ L a ((a + j : Nat) : Int) by_ = M := ⟨_, rfl⟩
              have hml : M.length = L.length := by rw [← hM]; exact HLen.out _
              rw [hM] at HJ
              have hRg := HR.out.grow HJ.out.grown
              have l3 := hRg.at
              have f3 := hRg.frozen 0
              have hO := HR.out.other HJ.out.grown HJ.out.own
              have hGr := HJ.out.done (u := .slice (some ⟨g8, 0, none⟩) M.length c8) HR.out.qlt
              have hGb := fun b' hb' => (OwnOf.lt HJ.out.gone (g := b') hb').1
              rw [hml] at hO hGr
              have HRes := Lib.hid (addA_yes (w := w) (P := fun w' L' => LR w w' q [q, g] L') HM.out hGr hGb (by rw [hM]; exact hO))
              obtain ⟨sa, sc, hgv⟩ := OwnOf.form HJ.out.gone
              subst hgv
              clear hRg hO hGr hGb hM
              go_wp2_with fail
              go_ret2
              exact HRes.out
  · have HN := Lib.hid (show ¬ mayJ L lo hi by_ from fun k => hr k.1)
    have HRes := Lib.hid (HR.out.same (grown_refl w none))
    rcases (show lo < 0 ∨ (¬ lo < 0 ∧ hi > L.length) ∨ (¬ lo < 0 ∧ ¬ hi > L.length ∧ lo > hi) by omega) with h1 | ⟨h1, h2⟩ | ⟨h1, h2, h3⟩
    all_goals
      clear hr hlo hhi hby
      go_enter Try.func35, Try.ntmps35
      go_wp2_with fail
      go_ret2
      exact addA_no HN.out HRes.out
end
end Go.Proofs.Ytfmihbiongnpnaa
