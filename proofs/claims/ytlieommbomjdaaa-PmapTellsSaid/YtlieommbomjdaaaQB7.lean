/- Package pmap: Protect, Clear, Close, of the program's own words; a leaf that is not there. Layer 7: words that agree on tables; tables given back in any order. No program in it. Layer 7: the program's Enter and Remove, held against the model's. No program in it. Layer 7: the program's Remove, Protect and Clear, held against the model's. No program in it. Package pmap: what it must be shown to say of its spaces (PmOk), shown. -/
import Derived.Test.YtlieommbomjdaaaQB6
import Derived.Test.YtlieommbomjdaaaMB3
namespace Go.Proofs.Ytlieommbomjdaaa
open Go.ChangeShapes Go.WideShapes Go.ChangeAt Go.RowKit Go.Deep
set_option linter.unusedVariables false

section
variable {w0 w w' w2 : World} {m d n p x : Nat} {O O2 : List Nat} {a r : Int} {M M' : List UInt8} {xs zs us vs xf : List FrV} {ts : List Int} {e : Int}
theorem sp_remove_no (h : QX w0 w m d n p O x a r M xs) (v : Int) (hfind : leafE n (wordI n M) r v = none) :
    Calls Try.prog 15 #[.pointer (some ⟨x, 0, none⟩), .int .i64 v] w fun en w' => en = .returned (.bool false) ∧ w.grownBy w' none := by
  have hF := sp_find h.sp h.st v
  rw [hfind] at hF
  unfold findV at hF
  have HF := Lib.hid hF
  clear h hF hfind
  go_enter Try.func15, Try.ntmps15
  go_wp2_with fail
  refine HF.out.mono ?_
  rintro e' w1 ⟨rfl, g1⟩
  have HG1 := Lib.hid (grown_trans g1 (World.grownBy_alloc w1 (.cells #[.int .i64 0, .int .i64 0] 44) none))
  clear g1
  go_wp2_with fail
  go_ret
  exact ⟨rfl, HG1.out⟩
theorem sp_protect_0 (v q : Int) (hq : bits .and .i64 (flagsOf q true) 14 = 0) (b : Bool) (P : World → Prop) (hR : ∀ W, w.grownBy W none → Calls Try.prog 15 #[.pointer (some ⟨x, 0, none⟩), .int .i64 v] W fun en w' => en = .returned (.bool b) ∧ P w') :
    Calls Try.prog 27 #[.pointer (some ⟨x, 0, none⟩), .int .i64 v, .int .i64 q] w fun en w' => en = .returned (.bool b) ∧ P w' := by
  have HR := Lib.hid hR
  have b0 : (bits .and .i64 (flagsOf q true) 14 == 0) = true := by rw [hq]; rfl
  clear hR hq
  go_enter Try.func27, Try.ntmps27
  go_wp2_with fail
  refine (flagsOf_ok q true w).mono ?_
  rintro e' w1 ⟨rfl, h1⟩
  have G1 := Lib.hid (grown_of_below' h1)
  clear h1
  go_wp2_with fail
  refine (HR.out w1 G1.out).mono ?_
  rintro e' w2 ⟨rfl, h2⟩
  have H2 := Lib.hid h2
  clear h2
  go_wp2_with fail
  go_ret
  exact ⟨rfl, H2.out⟩
theorem sp_protect_no (h : QX w0 w m d n p O x a r M xs) (v q : Int) (hq : bits .and .i64 (flagsOf q true) 14 ≠ 0) (hfind : leafE n (wordI n M) r v = none) :
    Calls Try.prog 27 #[.pointer (some ⟨x, 0, none⟩), .int .i64 v, .int .i64 q] w fun en w' => en = .returned (.bool false) ∧ w.grownBy w' none := by
  have HF := Lib.hid (fun W (g : w.grownBy W none) => (sp_find (h.grow g).sp (h.grow g).st v))
  rw [hfind] at HF
  unfold findV at HF
  have b0 : (bits .and .i64 (flagsOf q true) 14 == 0) = false := by simpa using hq
  clear h hfind hq
  go_enter Try.func27, Try.ntmps27
  go_wp2_with fail
  refine (flagsOf_ok q true w).mono ?_
  rintro e' w1 ⟨rfl, h1⟩
  have G1 := Lib.hid (grown_of_below' h1)
  clear h1
  go_wp2_with fail
  refine (HF.out w1 G1.out).mono ?_
  rintro e' w2 ⟨rfl, g2⟩
  have G2 := Lib.hid (grown_trans G1.out (grown_trans g2 (World.grownBy_alloc w2 (.cells #[.int .i64 0, .int .i64 0] 44) none)))
  clear g2
  go_wp2_with fail
  go_ret
  exact ⟨rfl, G2.out⟩
theorem sp_protect (h : QX w0 w m d n p O x a r M xs) (v q A B f : Int) (hq : bits .and .i64 (flagsOf q true) 14 ≠ 0) (hfind : leafE n (wordI n M) r v = some (A, B)) (hp : placeOf n M r v = some f) (hf : 0 ≤ f ∧ f < n) (hU : okU (changeOf (wordI n M f (indexOf v 0)) 14 (bits .and .i64 (flagsOf q true) 14))) :
    Calls Try.prog 27 #[.pointer (some ⟨x, 0, none⟩), .int .i64 v, .int .i64 q] w fun en w' => en = .returned (.bool true) ∧ QWL w0 w w' m d n p O x a r (updW (wordI n M) f (indexOf v 0) (changeOf (wordI n M f (indexOf v 0)) 14 (bits .and .i64 (flagsOf q true) 14))) xs := by
  have HF := Lib.hid (fun W (g : w.grownBy W none) => (sp_find (h.grow g).sp (h.grow g).st v))
  rw [hfind] at HF
  unfold findV at HF
  have b0 : (bits .and .i64 (flagsOf q true) 14 == 0) = false := by simpa using hq
  have HC := Lib.hid (fun W (g : w.grownBy W none) => sp_change (h.grow g) v 14 (bits .and .i64 (flagsOf q true) 14) f hp hf hU)
  have HQ := Lib.hid h
  have HW := Lib.hid (words_set (n := n) h.st.len hf (index_okX v 0) hU)
  clear h hfind hq hp hf hU
  go_enter Try.func27, Try.ntmps27
  go_wp2_with fail
  refine (flagsOf_ok q true w).mono ?_
  rintro e' w1 ⟨rfl, h1⟩
  have G1 := Lib.hid (grown_of_below' h1)
  clear h1
  go_wp2_with fail
  refine (HF.out w1 G1.out).mono ?_
  rintro e' w2 ⟨rfl, g2⟩
  have G2 := Lib.hid (grown_trans G1.out (grown_trans g2 (World.grownBy_alloc w2 (.cells #[.int .i64 A, .int .i64 B] 44) none)))
  clear g2
  go_wp2_with fail
  refine (HC.out _ G2.out).mono ?_
  rintro e' w3 ⟨rfl, s3, g3⟩
  have HQ3 := Lib.hid ((HQ.out.grow G2.out).mem1 s3 g3)
  have T3 := Lib.hid ((Turn.grown (O := d :: O) G2.out).trans' (Turn.one (O := d :: O) g3 (by simp)))
  clear s3 g3
  go_wp2_with fail
  go_ret
  exact ⟨rfl, _, HW.out, O, HQ3.out, T3.out, fun b hb => .inl hb⟩
theorem sp_clearF_no (h : QX w0 w m d n p O x a r M xs) (v k : Int) (hfind : leafE n (wordI n M) r v = none) :
    Calls Try.prog 28 #[.pointer (some ⟨x, 0, none⟩), .int .i64 v, .int .i64 k] w fun en w' => en = .returned (.int .i64 0) ∧ w.grownBy w' none := by
  have hF := sp_find h.sp h.st v
  rw [hfind] at hF
  unfold findV at hF
  have HF := Lib.hid hF
  clear h hF hfind
  go_enter Try.func28, Try.ntmps28
  go_wp2_with fail
  refine HF.out.mono ?_
  rintro e' w1 ⟨rfl, g1⟩
  have HG1 := Lib.hid (grown_trans g1 (World.grownBy_alloc w1 (.cells #[.int .i64 0, .int .i64 0] 44) none))
  clear g1
  go_wp2_with fail
  go_ret
  exact ⟨rfl, HG1.out⟩
theorem sp_clearF (h : QX w0 w m d n p O x a r M xs) (v k A B f : Int) (hfind : leafE n (wordI n M) r v = some (A, B)) (hp : placeOf n M r v = some f) (hf : 0 ≤ f ∧ f < n) (hU : okU (changeOf (wordI n M f (indexOf v 0)) (hadOf A k) 0)) :
    Calls Try.prog 28 #[.pointer (some ⟨x, 0, none⟩), .int .i64 v, .int .i64 k] w fun en w' => en = .returned (.int .i64 (hadOf A k)) ∧ QWL w0 w w' m d n p O x a r (updW (wordI n M) f (indexOf v 0) (changeOf (wordI n M f (indexOf v 0)) (hadOf A k) 0)) xs := by
  have hF := sp_find h.sp h.st v
  rw [hfind] at hF
  unfold findV at hF
  have HF := Lib.hid hF
  have HH := Lib.hid (and_and_192 A k)
  have HC := Lib.hid (fun W (g : w.grownBy W none) => sp_change (h.grow g) v (hadOf A k) 0 f hp hf hU)
  have HQ := Lib.hid h
  have HW := Lib.hid (words_set (n := n) h.st.len hf (index_okX v 0) hU)
  clear h hF hfind hp hf hU
  go_enter Try.func28, Try.ntmps28
  go_wp2_with fail
  refine HF.out.mono ?_
  rintro e' w1 ⟨rfl, g1⟩
  have HG1 := Lib.hid (grown_trans g1 (World.grownBy_alloc w1 (.cells #[.int .i64 A, .int .i64 B] 44) none))
  clear g1
  go_wp2_with fail
  rw [HH.out]
  refine (HC.out _ HG1.out).mono ?_
  rintro e' w3 ⟨rfl, s3, g3⟩
  have HQ3 := Lib.hid ((HQ.out.grow HG1.out).mem1 s3 g3)
  have T3 := Lib.hid ((Turn.grown (O := d :: O) HG1.out).trans' (Turn.one (O := d :: O) g3 (by simp)))
  clear s3 g3
  go_wp2_with fail
  go_ret
  exact ⟨rfl, _, HW.out, O, HQ3.out, T3.out, fun b hb => .inl hb⟩

theorem QX.zeroed (h : QX w0 w m d n p O x a r M xs) :
    QM w0 ((((w.setCell ⟨x, 0, none⟩ (.pointer none)).setCell ⟨x, 1, none⟩ (.pointer none)).setCell ⟨x, 2, none⟩ (.int .i64 0)).setCell ⟨x, 3, none⟩ (.int .i64 0)) m d n p O M xs ∧
    ZpB ((((w.setCell ⟨x, 0, none⟩ (.pointer none)).setCell ⟨x, 1, none⟩ (.pointer none)).setCell ⟨x, 2, none⟩ (.int .i64 0)).setCell ⟨x, 3, none⟩ (.int .i64 0)) x ∧
    w.grownBy ((((w.setCell ⟨x, 0, none⟩ (.pointer none)).setCell ⟨x, 1, none⟩ (.pointer none)).setCell ⟨x, 2, none⟩ (.int .i64 0)).setCell ⟨x, 3, none⟩ (.int .i64 0)) (some x) := by
  have g := grown_trans (grown_trans (grown_trans (grown_set w x 0 (.pointer none)) (grown_set _ x 1 (.pointer none))) (grown_set _ x 2 (.int .i64 0))) (grown_set _ x 3 (.int .i64 0))
  have hz : ZpB ((((w.setCell ⟨x, 0, none⟩ (.pointer none)).setCell ⟨x, 1, none⟩ (.pointer none)).setCell ⟨x, 2, none⟩ (.int .i64 0)).setCell ⟨x, 3, none⟩ (.int .i64 0)) x :=
    heap_setCell_same _ x 3 _ _ _ (heap_setCell_same _ x 2 _ _ _ (heap_setCell_same _ x 1 _ _ _ (heap_setCell_same w x 0 _ _ _ h.sp)))
  generalize ((((w.setCell ⟨x, 0, none⟩ (.pointer none)).setCell ⟨x, 1, none⟩ (.pointer none)).setCell ⟨x, 2, none⟩ (.int .i64 0)).setCell ⟨x, 3, none⟩ (.int .i64 0)) = w5 at *
  have hne : ∀ b, b ∈ m :: d :: O → w5.heap[b]? = w.heap[b]? := fun b hb => g.block b (h.lt b (List.mem_cons_of_mem _ hb)) fun e => by injection e with e; subst e; exact h.xn hb
  exact ⟨⟨⟨⟨(hne m (by simp)).trans h.st.mem.head, (hne d (by simp)).trans h.st.mem.body, h.st.mem.len, h.st.mem.ne, h.st.mem.pos, h.st.mem.le⟩, (Turn.one (O := [x]) g (by simp)).low h.below (fun b hb => by rw [List.mem_singleton.1 hb]; exact h.xge), h.st.dge, h.st.mge⟩, PP.kept h.pool fun b hb => hne b (by simp [hb]), h.num, h.oge, h.apart⟩, hz, g⟩

/-- Between two rounds of Close. -/
def CloseAt (w0 w wr : World) (m d n p : Nat) (O : List Nat) (x : Nat) (a r : Int) (M : List UInt8) (xs : List FrV) (ts : List Int) (sv : Value) (k : Nat) (c : Int) : Prop :=
  ∃ O' xk, QX w0 wr m d n p O' x a r M xk ∧ Turn (d :: O) w wr ∧ (∀ b, b ∈ O' → b ∈ O ∨ w.heap.size ≤ b) ∧ IOwn wr w.heap.size sv ts ∧ giveAll (ts.take k) (0, xs) = (c, xk) ∧ 0 ≤ c ∧ c ≤ k

set_option maxHeartbeats 4000000 in
theorem sp_close (h : QX w0 w m d n p O x a r M xs) (hnd : (tabsL n (wordI n M) r).Nodup) (hlen : ∀ k xk c, giveAll ((sortL (tabsL n (wordI n M) r)).take k) (0, xs) = (c, xk) → xk.length = n) :
    Calls Try.prog 20 #[.pointer (some ⟨x, 0, none⟩)] w fun en w' => en = .returned (.int .i64 (giveAll (sortL (tabsL n (wordI n M) r)) (0, xs)).1) ∧ ∃ O', QM w0 w' m d n p O' M (giveAll (sortL (tabsL n (wordI n M) r)) (0, xs)).2 ∧ ZpB w' x ∧ x ∉ m :: d :: O' ∧ Turn (d :: x :: O) w w' ∧ ∀ b, b ∈ O' → b ∈ O ∨ w.heap.size ≤ b := by
  have HMd := Lib.hid (sp_made h.sp)
  have HTb := Lib.hid (sp_tabs h.sp h.st hnd)
  have hcnt : (sortL (tabsL n (wordI n M) r)).length ≤ 1000000 := by
    rw [sortL_len]
    have h1 := tabsK_len n (wordI n M) r (belowW n (wordI n M) r 512)
    have h2 := belowW_len n (wordI n M) r 512
    unfold tabsL
    omega
  obtain ⟨ts, hts⟩ : ∃ ts, sortL (tabsL n (wordI n M) r) = ts := ⟨_, rfl⟩
  rw [hts] at HTb hlen hcnt ⊢
  have HQ := Lib.hid h
  have HL := Lib.hid hlen
  have hdw := h.lt d (by simp)
  have HDW := Lib.hid hdw
  have HLT := Lib.hid h.lt
  have HCn := Lib.hid hcnt
  clear h hnd hlen hts hdw
  go_enter Try.func20, Try.ntmps20
  go_wp2_with fail
  refine HMd.out.mono ?_
  rintro e1 w1 ⟨rfl, e1⟩
  subst w1
  go_wp2_with fail
  refine HTb.out.mono ?_
  rintro e1 w1 ⟨g, c, zs', rfl, rfl, ho, g1⟩
  have HC0 := Lib.hid (show CloseAt w0 w w1 m d n p O x a r M xs zs' (.slice (some ⟨g, 0, none⟩) zs'.length c) 0 0 from ⟨O, xs, HQ.out.grow g1, Turn.grown g1, fun b hb => .inl hb, ho, rfl, by omega, by omega⟩)
  clear ho g1
  go_wp2_with fail
  go_loopw [3, 12] (fun nv iv wr => ∃ (k : Nat) (q : Int), k ≤ zs'.length ∧ iv = .int .i64 k ∧ nv = .int .i64 q ∧ 0 ≤ q ∧ q ≤ k ∧ Hid (CloseAt w0 w wr m d n p O x a r M xs zs' (.slice (some ⟨g, 0, none⟩) zs'.length c) k q)) (fun _ iv _ => zs'.length - (intOf iv).toNat)
  case atStart => exact ⟨0, 0, by omega, rfl, rfl, by omega, by omega, HC0⟩
  case round =>
    obtain ⟨k, q, hk, rfl, rfl, hq0, hqk, HCA⟩ := hrel
    obtain ⟨O5, xk, k1, k2, k3, k4, k5, k6, k7⟩ := HCA.out
    have HQ5 := Lib.hid k1
    have HT5 := Lib.hid k2
    have HF5 := Lib.hid k3
    have HO5 := Lib.hid k4
    have HG5 := Lib.hid k5
    by_cases hlt : k < zs'.length
    · obtain ⟨t, hkt⟩ : ∃ t, zs'[k]? = some t := ⟨_, List.getElem?_eq_getElem hlt⟩
      have c0 : wr.cell? ⟨g, k, none⟩ = some (.int .i64 t) := by
        have := k4.cells (g := g) rfl k (.int .i64 t) (by simp [hkt])
        rw [Addr.add_lit, Nat.zero_add] at this
        exact this
      have cp := k1.sp.at.2.1
      have hnx : giveAll (zs'.take (k + 1)) (0, xs) = (if (giveF xk t).e = 0 then q + 1 else q, (giveF xk t).xs) := by
        rw [List.take_add_one, hkt, giveAll_app, k5]
        rfl
      have hzl := HL.out _ _ _ hnx
      have HNX := Lib.hid hnx
      have HGv := Lib.hid (pp_give HQ5.out.pool t)
      obtain ⟨E, hE⟩ : ∃ E, (giveF xk t).e = E := ⟨_, rfl⟩
      rw [hE] at HGv HNX
      have HZL := Lib.hid hzl
      clear hkt hnx hzl hE k1 k2 k3 k4 k5 k6 k7 HCA
      by_cases hE0 : E = 0
      · subst hE0
        go_wp2_with fail
        refine HGv.out.mono ?_
        rintro e1 w6 ⟨rfl, f6⟩
        obtain ⟨O6, q6, t6, f6'⟩ := HQ5.out.pool' f6 HZL.out
        have HR6 := Lib.hid (show CloseAt w0 w w6 m d n p O x a r M xs zs' (.slice (some ⟨g, 0, none⟩) zs'.length c) (k + 1) (q + 1) from
          ⟨O6, _, q6, HT5.out.trans t6 (fun b hb => by
            rcases List.mem_cons.1 hb with e | hb
            · exact .inl (by simp [e])
            · rcases HF5.out b hb with e | e
              · exact .inl (by simp [e])
              · exact .inr e), fun b hb => by
            rcases f6' b hb with e | e
            · exact HF5.out b e
            · exact .inr (Nat.le_trans HT5.out.size e), HO5.out.kept fun b hb => t6.block b (HO5.out.lt hb).2 fun hm => by
            rcases List.mem_cons.1 hm with e | hm
            · have := (HO5.out.lt hb).1; have := HDW.out; omega
            · obtain ⟨cur, hc⟩ := (own_blk HO5.out hb).2
              exact HQ5.out.pool.other hc (by decide) (by decide) hm, by rw [HNX.out]; rfl, by omega, by omega⟩)
        clear q6 t6 f6 f6'
        go_wp2_with fail
        go_roundw
        case rel => exact ⟨k + 1, q + 1, by omega, by go_num, by go_num, by omega, by omega, HR6⟩
        case measure => simp [intOf]; omega
      · have b0 : (E == 0) = false := by simpa using hE0
        rw [if_neg hE0] at HNX
        clear hE0
        go_wp2_with fail
        refine HGv.out.mono ?_
        rintro e1 w6 ⟨rfl, f6⟩
        obtain ⟨O6, q6, t6, f6'⟩ := HQ5.out.pool' f6 HZL.out
        have HR6 := Lib.hid (show CloseAt w0 w w6 m d n p O x a r M xs zs' (.slice (some ⟨g, 0, none⟩) zs'.length c) (k + 1) q from
          ⟨O6, _, q6, HT5.out.trans t6 (fun b hb => by
            rcases List.mem_cons.1 hb with e | hb
            · exact .inl (by simp [e])
            · rcases HF5.out b hb with e | e
              · exact .inl (by simp [e])
              · exact .inr e), fun b hb => by
            rcases f6' b hb with e | e
            · exact HF5.out b e
            · exact .inr (Nat.le_trans HT5.out.size e), HO5.out.kept fun b hb => t6.block b (HO5.out.lt hb).2 fun hm => by
            rcases List.mem_cons.1 hm with e | hm
            · have := (HO5.out.lt hb).1; have := HDW.out; omega
            · obtain ⟨cur, hc⟩ := (own_blk HO5.out hb).2
              exact HQ5.out.pool.other hc (by decide) (by decide) hm, HNX.out, by omega, by omega⟩)
        clear q6 t6 f6 f6'
        go_wp2_with fail
        go_roundw
        case rel => exact ⟨k + 1, q, by omega, by go_num, rfl, by omega, by omega, HR6⟩
        case measure => simp [intOf]; omega
    · obtain rfl : k = zs'.length := by omega
      have hx := k1.sp
      have hxn := k1.xn
      obtain ⟨c0, c1, c2, c3⟩ := hx.at
      have z0 : wr.frozen? ⟨x, 0, none⟩ = false := frozen_of_row _ _ _ _ _ hx
      have z1 : wr.frozen? ⟨x, 1, none⟩ = false := frozen_of_row _ _ _ _ _ hx
      have z2 : wr.frozen? ⟨x, 2, none⟩ = false := frozen_of_row _ _ _ _ _ hx
      have z3 : wr.frozen? ⟨x, 3, none⟩ = false := frozen_of_row _ _ _ _ _ hx
      have HX := Lib.hid hx
      have HXn := Lib.hid hxn
      clear hx hxn k1 k2 k3 k4 k5 k6 k7 HCA
      go_wp2_with fail
      go_ret
      have hg5 := HG5.out
      rw [List.take_length] at hg5
      rw [hg5]
      obtain ⟨q1, q2, q3⟩ := HQ5.out.zeroed
      refine ⟨rfl, O5, q1, q2, HQ5.out.xn, ?_, HF5.out⟩
      refine (HT5.out.mono (O' := d :: x :: O) fun b hb => by rcases List.mem_cons.1 hb with e | hb <;> simp [*]).trans' (Turn.one (O := d :: x :: O) q3 (by simp))
end
end Go.Proofs.Ytlieommbomjdaaa

namespace Go.Proofs.Ytlieommbomjdaaa
open Go.RowKit
set_option linter.unusedVariables false

/-- Words that agree wherever a table stands. -/
def Ag (xs : List FrV) (W W' : WoF) : Prop := ∀ f a l, Tab (getF xs) f a l → ∀ j, okX j → W f j = W' f j
/-- Leaves' words are as they are made. -/
def Can (xs : List FrV) (W : WoF) : Prop := ∀ f a, Tab (getF xs) f a 2 → ∀ j, okX j → canE (W f j)

section
variable {n : Nat} {s : MS} {E : Int → Prop} {a b r f g i l m v x y : Int} {W W' : WoF} {xs : List FrV}
theorem Ag.upd (h : Ag xs W W') (f i y : Int) : Ag xs (updW W f i y) (updW W' f i y) := fun g a l hg j hj => by
  unfold updW
  split
  · rfl
  · exact h g a l hg j hj
theorem Ag.new (h : Ag xs W W') {k : Nat} (hk : k < xs.length) (z : FrV) : Ag (xs.set k z) (zeroW W k) (zeroW W' k) := fun g a l hg j hj => by
  unfold zeroW
  by_cases e : g = k
  · rw [if_pos e, if_pos e]
  · rw [if_neg e, if_neg e]
    rw [getF_set hk] at hg
    unfold Tab at hg
    rw [updF_ne _ _ e] at hg
    exact h g a l hg j hj
theorem Ag.less (h : Ag xs W W') {k : Nat} (hk : k < xs.length) : Ag (xs.set k zeroF) W W' := fun g a l hg j hj => by
  rw [getF_set hk] at hg
  unfold Tab at hg
  by_cases e : g = k
  · rw [e, updF_self] at hg; injection hg with hg; exact (tabF_ne hg.symm).elim
  · rw [updF_ne _ _ e] at hg
    exact h g a l hg j hj
theorem Can.leaf (h : Can xs W) (f : Int) {i y : Int} (hy : canE y) : Can xs (updW W f i y) := fun g a hg j hj => by
  unfold updW
  split
  · exact hy
  · exact h g a hg j hj
theorem Can.high (h : Can xs W) {f a l : Int} (hf : Tab (getF xs) f a l) (hl : l < 2) (i y : Int) : Can xs (updW W f i y) := fun g b hg j hj => by
  unfold updW
  split
  · rename_i e
    obtain ⟨e, _⟩ := e
    subst e
    have := (hg.eq hf).2
    omega
  · exact h g b hg j hj
theorem Can.new (h : Can xs W) {k : Nat} (hk : k < xs.length) (z : FrV) : Can (xs.set k z) (zeroW W k) := fun g a hg j hj => by
  unfold zeroW
  by_cases e : g = k
  · rw [if_pos e]; exact .inl rfl
  · rw [if_neg e]
    rw [getF_set hk] at hg
    unfold Tab at hg
    rw [updF_ne _ _ e] at hg
    exact h g a hg j hj
theorem Can.less (h : Can xs W) {k : Nat} (hk : k < xs.length) : Can (xs.set k zeroF) W := fun g a hg j hj => by
  rw [getF_set hk] at hg
  unfold Tab at hg
  by_cases e : g = k
  · rw [e, updF_self] at hg; injection hg with hg; exact (tabF_ne hg.symm).elim
  · rw [updF_ne _ _ e] at hg
    exact h g a hg j hj
theorem can_enc {F P : Int} (h1 : F % 256 % 2 = 1) (h2 : F % 256 / 16 % 4 = 1) : canE (encOf F P) := by
  refine .inr ⟨?_, ?_, ?_⟩
  · rw [flag_enc, ppn_enc]; unfold encOf; omega
  · rw [flag_enc]; exact h1
  · rw [flag_enc]; exact h2
theorem nx_ag (h : Ag xs W W') (hf : Tab (getF xs) f a l) (hi : okX i) : nxW n W f i = nxW n W' f i := by
  unfold nxW
  rw [h f a l hf i hi]

theorem MOk.below_mem (h : MOk n s E) (hf : Tab (getF s.xs) f a l) (hl : l < 2) (k : Nat) (hk : k ≤ 512) : ∀ g, g ∈ belowW n s.W f k → Tab (getF s.xs) g a (l + 1) ∧ ∃ i, okX i ∧ s.W f i = entT g := by
  intro g hg
  obtain ⟨i, hi, hg⟩ := List.mem_flatMap.1 hg
  have hi := List.mem_range.1 hi
  have hx : okX (i : Nat) := ⟨by omega, by omega⟩
  rcases h.nx hf hl hx with ⟨e, _⟩ | ⟨g', e, e2, ht⟩
  · rw [e] at hg; cases hg
  · rw [e] at hg
    have := List.mem_singleton.1 hg
    subst this
    exact ⟨ht, i, hx, e2⟩
theorem MOk.below_nodup (h : MOk n s E) (hf : Tab (getF s.xs) f a l) (hl : l < 2) : ∀ k : Nat, k ≤ 512 → (belowW n s.W f k).Nodup := by
  intro k
  induction k with
  | zero => intro _; exact List.nodup_nil
  | succ k ih =>
    intro hk
    rw [belowW_succ, List.nodup_append]
    refine ⟨ih (by omega), ?_, ?_⟩
    · cases nxW n s.W f (k : Nat) <;> simp
    · intro g hg g' hg' e
      subst e
      have hx : okX (k : Nat) := ⟨by omega, by omega⟩
      rcases h.nx hf hl hx with ⟨e, _⟩ | ⟨g2, e, e2, ht⟩
      · rw [e] at hg'; cases hg'
      · rw [e] at hg'
        have := List.mem_singleton.1 hg'
        subst this
        obtain ⟨i, hi, hg⟩ := List.mem_flatMap.1 hg
        have hi := List.mem_range.1 hi
        have hxi : okX (i : Nat) := ⟨by omega, by omega⟩
        rcases h.nx hf hl hxi with ⟨e3, _⟩ | ⟨g3, e3, e4, _⟩
        · rw [e3] at hg; cases hg
        · rw [e3] at hg
          have := List.mem_singleton.1 hg
          subst this
          have := (h.tree.once f f (i : Nat) (k : Nat) _ a l hf hf hl hxi hx e4 e2).2
          omega
theorem MOk.tabs_mem (h : MOk n s E) (hr : Tab (getF s.xs) r a 0) (g : Int) : g ∈ tabsL n s.W r ↔ ∃ l, Tab (getF s.xs) g a l := by
  rw [← h.closeL_iff hr]
  unfold tabsL tabsK closeL
  rw [List.mem_append, List.mem_cons, List.mem_singleton, List.mem_flatMap, List.mem_flatMap]
  constructor
  · rintro (e | ⟨t, ht, hg⟩)
    · exact .inr e
    · refine .inl ?_
      obtain ⟨i, hi, ht⟩ := List.mem_flatMap.1 ht
      refine ⟨i, hi, ?_⟩
      unfold closeTop
      cases e : nxW n s.W r (i : Nat) with
      | none => rw [e] at ht; cases ht
      | some m =>
        rw [e] at ht
        have := List.mem_singleton.1 ht
        subst this
        rw [List.mem_append, List.mem_singleton]
        rcases List.mem_cons.1 hg with rfl | hg
        · exact .inr rfl
        · exact .inl hg
  · rintro (⟨i, hi, hg⟩ | e)
    · refine .inr ?_
      unfold closeTop at hg
      cases e : nxW n s.W r (i : Nat) with
      | none => rw [e] at hg; cases hg
      | some m =>
        rw [e] at hg
        refine ⟨m, List.mem_flatMap.2 ⟨i, hi, by rw [e]; exact List.mem_singleton.2 rfl⟩, ?_⟩
        rcases List.mem_append.1 hg with hg | hg
        · exact List.mem_cons_of_mem _ hg
        · rw [List.mem_singleton.1 hg]; exact List.mem_cons_self
    · exact .inl e
theorem MOk.tabs_nodup (h : MOk n s E) (hr : Tab (getF s.xs) r a 0) : (tabsL n s.W r).Nodup := by
  have hm := h.below_mem hr (by omega) 512 (by omega)
  have hn := h.below_nodup hr (by omega) 512 (by omega)
  unfold tabsL tabsK
  generalize belowW n s.W r 512 = ts at *
  rw [List.nodup_cons]
  constructor
  · intro hg
    obtain ⟨t, ht, hg⟩ := List.mem_flatMap.1 hg
    have ht1 := (hm t ht).1
    rcases List.mem_cons.1 hg with e | hg
    · subst e; have := (hr.eq ht1).2; omega
    · have := (h.below_mem ht1 (by omega) 512 (by omega) r hg).1
      have := (hr.eq this).2
      omega
  · show List.Pairwise (· ≠ ·) _
    rw [List.pairwise_flatMap]
    refine ⟨fun t ht => ?_, ?_⟩
    · have ht1 := (hm t ht).1
      have hb := h.below_nodup ht1 (by omega) 512 (by omega)
      refine List.nodup_cons.2 ⟨fun hg => ?_, hb⟩
      have := (ht1.eq (h.below_mem ht1 (by omega) 512 (by omega) t hg).1).2
      omega
    · refine List.Pairwise.imp_of_mem ?_ hn
      intro t u ht hu hne p hp q hq e
      subst e
      have ht1 := (hm t ht).1
      have hu1 := (hm u hu).1
      rcases List.mem_cons.1 hp with e1 | hp <;> rcases List.mem_cons.1 hq with e2 | hq
      · exact hne (e1.symm.trans e2)
      · subst e1
        have := (ht1.eq (h.below_mem hu1 (by omega) 512 (by omega) _ hq).1).2
        omega
      · subst e2
        have := (hu1.eq (h.below_mem ht1 (by omega) 512 (by omega) _ hp).1).2
        omega
      · obtain ⟨hp1, i, hi, hi2⟩ := h.below_mem ht1 (by omega) 512 (by omega) p hp
        obtain ⟨_, j, hj, hj2⟩ := h.below_mem hu1 (by omega) 512 (by omega) p hq
        exact hne (h.tree.once t u i j p a (0 + 1) ht1 hu1 (by omega) hi hj hi2 hj2).1

/-- Tables given back: as many as there are, in whatever order. -/
theorem giveAll_len : ∀ (fs : List Int) (c : Int) (xs : List FrV), fs.Nodup → (∀ f, f ∈ fs → ∃ l, Tab (getF xs) f a l) → (giveAll fs (c, xs)).1 = c + fs.length
  | [], c, xs, _, _ => by simp [giveAll]
  | f :: fs, c, xs, hn, h => by
    obtain ⟨l, ht⟩ := h f List.mem_cons_self
    obtain ⟨h0, h1, h2⟩ := getF_some ht
    have e : giveF xs f = ⟨0, 0, xs.set f.toNat zeroF⟩ := by
      obtain ⟨k, rfl⟩ := Int.eq_ofNat_of_zero_le h0
      rw [Int.toNat_natCast] at *
      exact atF_at h2 (by show (1 : Int) ≠ 0; decide)
    have hF : getF (xs.set f.toNat zeroF) = updF (getF xs) f zeroF := by
      rw [getF_set (by omega)]
      rw [show ((f.toNat : Nat) : Int) = f by omega]
    have e2 : giveAll (f :: fs) (c, xs) = giveAll fs (c + 1, xs.set f.toNat zeroF) := by
      show giveAll fs (if (giveF xs f).e = 0 then c + 1 else c, (giveF xs f).xs) = _
      rw [e]; rfl
    rw [e2]
    rw [List.nodup_cons] at hn
    rw [giveAll_len fs (c + 1) _ hn.2 fun g hg => by
      obtain ⟨l', hl'⟩ := h g (List.mem_cons_of_mem _ hg)
      rw [hF]
      exact ⟨l', hl'.upd fun e => hn.1 (e ▸ hg)⟩]
    simp only [List.length_cons]
    omega
theorem getF_ext {xs ys : List FrV} (hl : xs.length = ys.length) (h : ∀ f, getF xs f = getF ys f) : xs = ys := by
  apply List.ext_getElem? 
  intro k
  have := h (k : Nat)
  unfold getF at this
  by_cases hk : k < xs.length
  · rw [if_pos (by omega), if_pos (by omega), Int.toNat_natCast] at this
    exact this
  · rw [List.getElem?_eq_none (by omega), List.getElem?_eq_none (by omega)]
theorem MOk.close_any (h : MOk n s noE) (hr : Tab (getF s.xs) r a 0) {fs : List Int} (hm : ∀ g, g ∈ fs ↔ ∃ l, Tab (getF s.xs) g a l) : giveAll fs (0, s.xs) = closeM n r s := by
  obtain ⟨i0, i1, i2, i3, i4, i5⟩ := giveAll_ok a fs 0 s.xs fun f hf => .inr ((hm f).1 hf)
  obtain ⟨j0, j1, j2, j3, j4, j5⟩ := giveAll_ok a (closeL n s.W r) 0 s.xs fun f hf => .inr ((h.closeL_iff hr f).1 hf)
  have e2 : (giveAll fs (0, s.xs)).2 = (closeM n r s).2 := by
    refine getF_ext (i0.trans j0.symm) fun f => ?_
    by_cases c : ∃ l, Tab (getF s.xs) f a l
    · exact (i1 f ((hm f).2 c)).trans (j1 f ((h.closeL_iff hr f).2 c)).symm
    · exact (i2 f fun k => c ((hm f).1 k)).trans (j2 f fun k => c ((h.closeL_iff hr f).1 k)).symm
  have e1 : (giveAll fs (0, s.xs)).1 = (closeM n r s).1 := by
    have j3 : (closeM n r s).1 + totF (closeM n r s).2 = 0 + totF s.xs := j3
    rw [e2] at i3
    omega
  exact Prod.ext e1 e2
theorem MOk.tabs_len (h : MOk n s noE) (hr : Tab (getF s.xs) r a 0) : ((tabsL n s.W r).length : Int) = cntF s.xs a := by
  have h1 := giveAll_len (a := a) (tabsL n s.W r) 0 s.xs (h.tabs_nodup hr) fun f hf => (h.tabs_mem hr f).1 hf
  rw [h.close_any hr (h.tabs_mem hr), (h.close hr 0).2.2.2.1] at h1
  omega
theorem below_ag (h : Ag xs W W') (hf : Tab (getF xs) f a l) : ∀ k : Nat, k ≤ 512 → belowW n W f k = belowW n W' f k := by
  intro k
  induction k with
  | zero => intro _; rfl
  | succ k ih => intro hk; rw [belowW_succ, belowW_succ, ih (by omega), nx_ag h hf ⟨by omega, by omega⟩]
theorem flat_ag (h : Ag xs W W') (K : Nat) (hK : K ≤ 512) (ts : List Int) (ht : ∀ t, t ∈ ts → Tab (getF xs) t a l) : (ts.flatMap fun t => t :: belowW n W t K) = ts.flatMap fun t => t :: belowW n W' t K := by
  induction ts with
  | nil => rw [List.flatMap_nil, List.flatMap_nil]
  | cons t ts ih => rw [List.flatMap_cons, List.flatMap_cons, below_ag h (ht t List.mem_cons_self) K hK, ih fun g hg => ht g (List.mem_cons_of_mem _ hg)]
theorem MOk.tabs_ag (h : MOk n s E) (hg : Ag s.xs W s.W) (hr : Tab (getF s.xs) r a 0) : tabsL n W r = tabsL n s.W r := by
  have hm := h.below_mem hr (by omega) 512 (by omega)
  unfold tabsL tabsK
  rw [below_ag hg hr 512 (Nat.le_refl _), flat_ag (a := a) (l := 0 + 1) hg 512 (Nat.le_refl _) _ fun t ht => (hm t ht).1]
theorem MOk.place_ag (h : MOk n s E) (hg : Ag s.xs W s.W) (hr : Tab (getF s.xs) r a 0) (v : Int) : placeW n W r v = placeW n s.W r v := by
  unfold placeW
  rw [nx_ag hg hr (index_okX v 2)]
  split
  · rcases h.nx hr (by omega) (index_okX v 2) with ⟨e, _⟩ | ⟨m, e, _, hm⟩
    · rw [e]; rfl
    · rw [e]
      exact nx_ag hg hm (index_okX v 1)
  · rfl
theorem MOk.leaf_ag (h : MOk n s E) (hg : Ag s.xs W s.W) (hr : Tab (getF s.xs) r a 0) (v : Int) : leafW n W r v = leafW n s.W r v := by
  unfold leafW
  rw [h.place_ag hg hr]
  cases hp : placeW n s.W r v with
  | none => rfl
  | some f =>
    obtain ⟨m, _, _, _, hf⟩ := h.place hr hp
    show (if kindOf (flagOf (W f (indexOf v 0))) = 2 then some (f, W f (indexOf v 0)) else none) = if kindOf (flagOf (s.W f (indexOf v 0))) = 2 then some (f, s.W f (indexOf v 0)) else none
    rw [hg f a 2 hf _ (index_okX v 0)]
end
end Go.Proofs.Ytlieommbomjdaaa

namespace Go.Proofs.Ytlieommbomjdaaa
open Go.RowKit
set_option linter.unusedVariables false

section
variable {n : Nat} {s : MS} {E : Int → Prop} {a b r f g i l m v x y : Int} {W W' : WoF} {xs : List FrV}
theorem take_alt (h : MOk n s E) (a l : Int) : takeF 0 s.xs 1 a l = ⟨0, 5, s.xs⟩ ∨ ∃ k : Nat, k < n ∧ takeF 0 s.xs 1 a l = ⟨k, 0, s.xs.set k (tabF a l)⟩ ∧ getF s.xs k = some zeroF := by
  rcases h.take a l with ⟨e1, e2, _⟩ | h
  · left
    have hc : ¬ ¬ isCls 1 := not_not_intro ⟨by decide, by decide⟩
    unfold takeF at e1 ⊢
    rw [if_neg hc] at e1 ⊢
    by_cases hz : countF s.xs 0 = 0 ∨ (1 : Int) ≠ 1 ∧ countF s.xs 0 ≤ 0
    · rw [if_pos hz]
    · rw [if_neg hz] at e1 ⊢
      unfold takeAt at e1 ⊢
      split at e1
      · simp at e1
      · first | rfl | (rename_i hh; rw [hh]) | simp_all
  · exact .inr h
theorem set_back {xs : List FrV} {k : Nat} {z : FrV} (h : getF xs k = some z) (y : FrV) : (xs.set k y).set k z = xs := by
  obtain ⟨_, h1, h2⟩ := getF_some h
  rw [Int.toNat_natCast] at h2
  rw [List.set_set]
  apply List.ext_getElem?
  intro j
  by_cases e : k = j
  · subst e; rw [List.getElem?_set_self (by omega), h2]
  · rw [List.getElem?_set_ne e]
/-- What Enter comes to. -/
structure EnterLink (n : Nat) (a r v x : Int) (s t : MS) (W : WoF) (c : Int) (ys ts : List Int) (us vs : List FrV) : Prop where
  len : 1 ≤ ys.length ∧ ys.length ≤ 3
  way : ∀ zs, WayEnd n W r v zs → zs = ys
  takes : Takes n a ys.length s.xs ts c us
  back : (ts = [] ∧ vs = us) ∨ (∃ (k e0 : Int), ts = [k] ∧ giveF us k = ⟨0, e0, vs⟩ ∧ vs.length = n) ∨ c = 0
  puts : c = 0 → ∃ (yf : List Int) (Wf : WoF) (lf : Int), (Puts n v ys ts W yf Wf ∧ yf.length = 3 ∧ yf[2]? = some lf ∧ 0 ≤ lf ∧ lf < n) ∧ t.xs = us ∧ Ag us (updW Wf lf (indexOf v 0) x) t.W
  no : c ≠ 0 → t.xs = vs ∧ Ag vs W t.W
  can : Can t.xs t.W

theorem way_none (e : nxW n W r (indexOf v 2) = none) : ∀ zs, WayEnd n W r v zs → zs = [r] := by
  rintro zs (⟨rfl, _⟩ | ⟨m, rfl, e2, _⟩ | ⟨m, l, rfl, e2, _⟩)
  · rfl
  · rw [e] at e2; cases e2
  · rw [e] at e2; cases e2
theorem way_one (e : nxW n W r (indexOf v 2) = some m) (e1 : nxW n W m (indexOf v 1) = none) : ∀ zs, WayEnd n W r v zs → zs = [r, m] := by
  rintro zs (⟨rfl, e2⟩ | ⟨m, rfl, e2, _⟩ | ⟨m, l, rfl, e2, e3⟩)
  · rw [e] at e2; cases e2
  · rw [e] at e2; injection e2 with e2; rw [e2]
  · rw [e] at e2; injection e2 with e2; subst e2; rw [e1] at e3; cases e3
theorem way_two (e : nxW n W r (indexOf v 2) = some m) (e1 : nxW n W m (indexOf v 1) = some l) : ∀ zs, WayEnd n W r v zs → zs = [r, m, l] := by
  rintro zs (⟨rfl, e2⟩ | ⟨m, rfl, e2, e3⟩ | ⟨m, l, rfl, e2, e3⟩)
  · rw [e] at e2; cases e2
  · rw [e] at e2; injection e2 with e2; subst e2; rw [e1] at e3; cases e3
  · rw [e] at e2; injection e2 with e2; subst e2; rw [e1] at e3; injection e3 with e3; rw [e3]
theorem tab_ne {F : FrF} {f g a b l l' : Int} (h : Tab F f a l) (k : Tab F g b l') (hl : l ≠ l') : f ≠ g := fun e => by
  subst e
  exact hl (h.eq k).2
/-- A table of level 2 put below a way of two. -/
theorem enter_low (h : MOk n s E) (hg : Ag s.xs W s.W) (hc : Can s.xs s.W) (hm : Tab (getF s.xs) m a 1) (e0 : s.W m (indexOf v 1) = 0) (hx : canE x) {k : Nat} (hk : k < n) (hz : getF s.xs k = some zeroF) (he : takeF 0 s.xs 1 a 2 = ⟨k, 0, s.xs.set k (tabF a 2)⟩) :
    (leafM (growM s (takeF 0 s.xs 1 a 2) m (indexOf v 1)) (takeF 0 s.xs 1 a 2).n v x).xs = s.xs.set k (tabF a 2) ∧
    Ag (s.xs.set k (tabF a 2)) (updW (updW (zeroW W k) m (indexOf v 1) (encOf 1 k)) k (indexOf v 0) x) (leafM (growM s (takeF 0 s.xs 1 a 2) m (indexOf v 1)) (takeF 0 s.xs 1 a 2).n v x).W ∧
    Can (s.xs.set k (tabF a 2)) (leafM (growM s (takeF 0 s.xs 1 a 2) m (indexOf v 1)) (takeF 0 s.xs 1 a 2).n v x).W := by
  have hkl : k < s.xs.length := by rw [h.len]; exact hk
  have hee : encOf 1 k = entT k := enc_ent (n := n) ⟨by omega, by omega⟩ h.le
  rw [he]
  refine ⟨rfl, ?_, ?_⟩
  · show Ag _ (updW (updW (zeroW W k) m (indexOf v 1) (encOf 1 k)) k (indexOf v 0) x) (updW (updW (zeroW s.W k) m (indexOf v 1) (entT k)) k (indexOf v 0) x)
    rw [hee]
    exact ((hg.new hkl _).upd _ _ _).upd _ _ _
  · show Can _ (updW (updW (zeroW s.W k) m (indexOf v 1) (entT k)) k (indexOf v 0) x)
    have hmn : m ≠ k := hm.ne_free hz
    have hm' : Tab (getF (s.xs.set k (tabF a 2))) m a 1 := by rw [getF_set hkl]; exact hm.upd hmn
    exact ((hc.new hkl _).high hm' (by omega) _ _).leaf _ hx
theorem enter_link (h : Inv7 n s a r) (hg : Ag s.xs W s.W) (hc : Can s.xs s.W) (v x : Int) (hx : canE x) :
    ∃ ys ts us vs, EnterLink n a r v x s (enter1 n a r v x s).2 W (enter1 n a r v x s).1 ys ts us vs := by
  have hr := h.root
  have hlen := h.ok.len
  have hrn := h.ok.lt hr
  unfold enter1
  rcases h.ok.nx hr (by decide) (index_okX v 2) with ⟨e, e0⟩ | ⟨m, e, e0, hm⟩
  · have eW : nxW n W r (indexOf v 2) = none := by rw [nx_ag hg hr (index_okX v 2)]; exact e
    rw [e]
    simp only
    rcases take_alt h.ok a 1 with ht | ⟨k, hk, ht, hz⟩
    · rw [ht]
      simp only
      rw [if_neg (by decide)]
      refine ⟨[r], [], s.xs, s.xs, ⟨by simp, by simp⟩, way_none eW, .fail (by simp) (by simpa using ht) (show (5 : Int) ≠ 0 by decide), .inl ⟨rfl, rfl⟩, fun e => absurd (show (5 : Int) = 0 from e) (by decide), fun _ => ⟨rfl, hg⟩, hc⟩
    · have hkl : k < s.xs.length := by rw [hlen]; exact hk
      have hee : encOf 1 k = entT k := enc_ent (n := n) ⟨by omega, by omega⟩ h.ok.le
      have hrk : r ≠ k := hr.ne_free hz
      obtain ⟨g1, g2, g3, g4⟩ := h.ok.grow hr (by decide) (index_okX v 2) e0 hk ht hz
      have hN : (takeF 0 s.xs 1 a 1).e = 0 := by rw [ht]
      have hn' : (takeF 0 s.xs 1 a 1).n = k := by rw [ht]
      rw [if_pos hN]
      have hxs : (growM s (takeF 0 s.xs 1 a 1) r (indexOf v 2)).xs = s.xs.set k (tabF a 1) := by rw [ht]; rfl
      have hW1 : (growM s (takeF 0 s.xs 1 a 1) r (indexOf v 2)).W = updW (zeroW s.W k) r (indexOf v 2) (entT k) := by rw [ht]; rfl
      rw [hn']
      have hkt : Tab (getF (s.xs.set k (tabF a 1))) k a 1 := by rw [getF_set hkl]; exact updF_self _ _ _
      have hrt : Tab (getF (s.xs.set k (tabF a 1))) r a 0 := by rw [getF_set hkl]; exact hr.upd hrk
      have hg1 : Ag (s.xs.set k (tabF a 1)) (updW (zeroW W k) r (indexOf v 2) (encOf 1 k)) (growM s (takeF 0 s.xs 1 a 1) r (indexOf v 2)).W := by
        rw [hW1, hee]; exact (hg.new hkl _).upd _ _ _
      have hc1 : Can (s.xs.set k (tabF a 1)) (growM s (takeF 0 s.xs 1 a 1) r (indexOf v 2)).W := by
        rw [hW1]; exact (hc.new hkl _).high hrt (by omega) _ _
      have g1 : MOk n (growM s (takeF 0 s.xs 1 a 1) r (indexOf v 2)) (fun x => x = k ∨ (noE x ∧ x ≠ r)) := g1
      clear g2 g3 g4
      obtain ⟨s1, hs1⟩ : ∃ s1, growM s (takeF 0 s.xs 1 a 1) r (indexOf v 2) = s1 := ⟨_, rfl⟩
      rw [hs1] at g1 hxs hW1 hg1 hc1 ⊢
      have hk0 : ∀ j, okX j → s1.W k j = 0 := fun j hj => by
        rw [hW1]
        unfold updW
        rw [if_neg (fun e => hrk e.1.symm)]
        exact if_pos rfl
      rw [← hxs] at hkt hrt hg1 hc1
      have hsl : s1.xs.length = n := g1.len
      have ht1 : takeF 0 s.xs 1 a ((1 : Nat) : Int) = ⟨k, 0, s1.xs⟩ := by rw [hxs]; simpa using ht
      unfold enter2
      rw [nx_zero (hk0 _ (index_okX v 1))]
      simp only
      rcases take_alt g1 a 2 with ht2 | ⟨k2, hk2, ht2, hz2⟩
      · rw [ht2]
        simp only
        rw [if_neg (by decide)]
        have hgv := (g1.give hkt).1
        rw [Int.toNat_natCast, hxs, set_back hz] at hgv
        rw [← hxs] at hgv
        have htd : tidyM n r v s1 = ⟨updW s1.W r (indexOf v 2) 0, s.xs, s1.N - 1⟩ := by
          have e1 : nxW n s1.W r (indexOf v 2) = some (k : Int) := nx_ent h.ok.le (by rw [hW1]; exact if_pos ⟨rfl, rfl⟩) ⟨by omega, by omega⟩
          have e2 : shrinkM n s1 k (indexOf v 1) = s1 := by unfold shrinkM; rw [nx_zero (hk0 _ (index_okX v 1))]
          unfold tidyM
          rw [e1]
          simp only
          rw [e2]
          unfold shrinkM
          rw [e1]
          simp only
          rw [if_pos (show clearW s1.W k from hk0), hgv]
        rw [htd]
        refine ⟨[r], [(k : Int)], s1.xs, s.xs, ⟨by simp, by simp⟩, way_none eW, .step (by simp) ht1 ⟨by omega, by omega⟩ hsl (.fail (by simp) (by simpa using ht2) (show (5 : Int) ≠ 0 by decide)), .inr (.inl ⟨k, 0, rfl, hgv, hlen⟩), fun e => absurd (show (5 : Int) = 0 from e) (by decide), fun _ => ⟨rfl, fun f b l' hf j hj => ?_⟩, fun f b hf j hj => ?_⟩
        · show W f j = updW s1.W r (indexOf v 2) 0 f j
          rw [hg f b l' hf j hj, hW1]
          unfold updW
          by_cases c : f = r ∧ j = indexOf v 2
          · rw [if_pos c, c.1, c.2]; exact e0
          · rw [if_neg c, if_neg c]
            have hfk : f ≠ k := hf.ne_free hz
            exact (if_neg hfk).symm
        · show canE (updW s1.W r (indexOf v 2) 0 f j)
          rw [hW1]
          unfold updW
          by_cases c : f = r ∧ j = indexOf v 2
          · rw [if_pos c]; exact .inl rfl
          · rw [if_neg c, if_neg c]
            have hfk : f ≠ k := hf.ne_free hz
            unfold zeroW
            rw [if_neg hfk]
            exact hc f b hf j hj
      · obtain ⟨q1, q2, q3⟩ := enter_low (v := v) g1 hg1 hc1 hkt (hk0 _ (index_okX v 1)) hx hk2 hz2 ht2
        have hN2 : (takeF 0 s1.xs 1 a 2).e = 0 := by rw [ht2]
        rw [if_pos hN2]
        refine ⟨[r], [(k : Int), (k2 : Int)], s1.xs.set k2 (tabF a 2), [], ⟨by simp, by simp⟩, way_none eW, .step (by simp) ht1 ⟨by omega, by omega⟩ hsl (.step (by simp) (by simpa using ht2) ⟨by omega, by omega⟩ (by rw [List.length_set]; exact hsl) .done), .inr (.inr rfl), fun _ => ?_, fun e => (e rfl).elim, by rw [q1]; exact q3⟩
        refine ⟨[r, (k : Int), (k2 : Int)], _, (k2 : Int), ⟨.cons (p := r) (L := 2) (j := 0) (.inl ⟨rfl, rfl, rfl⟩) rfl hrn ⟨by omega, by omega⟩ (.cons (p := (k : Int)) (L := 1) (j := 1) (.inr (.inl ⟨rfl, rfl, rfl⟩)) rfl ⟨by omega, by omega⟩ ⟨by omega, by omega⟩ .nil), rfl, rfl, by omega, by omega⟩, q1, q2⟩
  · have hmn := h.ok.lt hm
    have eW : nxW n W r (indexOf v 2) = some m := by rw [nx_ag hg hr (index_okX v 2)]; exact e
    rw [e]
    simp only
    unfold enter2
    rcases h.ok.nx hm (by decide) (index_okX v 1) with ⟨e1, e10⟩ | ⟨l, e1, e10, hl⟩
    · have eW1 : nxW n W m (indexOf v 1) = none := by rw [nx_ag hg hm (index_okX v 1)]; exact e1
      rw [e1]
      simp only
      rcases take_alt h.ok a 2 with ht | ⟨k, hk, ht, hz⟩
      · rw [ht]
        simp only
        rw [if_neg (by decide)]
        have htd : tidyM n r v s = s := by
          unfold tidyM
          rw [e]
          simp only
          have e2 : shrinkM n s m (indexOf v 1) = s := by unfold shrinkM; rw [e1]
          rw [e2]
          unfold shrinkM
          rw [e]
          simp only
          obtain ⟨i, hi, hne⟩ := h.ok.tree.full m a 1 hm (by decide) (fun h => h)
          rw [if_neg (fun hcl => hne (hcl i hi))]
        rw [htd]
        exact ⟨[r, m], [], s.xs, s.xs, ⟨by simp, by simp⟩, way_one eW eW1, .fail (by simp) (by simpa using ht) (show (5 : Int) ≠ 0 by decide), .inl ⟨rfl, rfl⟩, fun e => absurd (show (5 : Int) = 0 from e) (by decide), fun _ => ⟨rfl, hg⟩, hc⟩
      · obtain ⟨q1, q2, q3⟩ := enter_low (v := v) h.ok hg hc hm e10 hx hk hz ht
        have hN2 : (takeF 0 s.xs 1 a 2).e = 0 := by rw [ht]
        rw [if_pos hN2]
        refine ⟨[r, m], [(k : Int)], s.xs.set k (tabF a 2), [], ⟨by simp, by simp⟩, way_one eW eW1, .step (by simp) (by simpa using ht) ⟨by omega, by omega⟩ (by rw [List.length_set]; exact hlen) .done, .inr (.inr rfl), fun _ => ?_, fun e => (e rfl).elim, by rw [q1]; exact q3⟩
        exact ⟨[r, m, (k : Int)], _, (k : Int), ⟨.cons (p := m) (L := 1) (j := 1) (.inr (.inl ⟨rfl, rfl, rfl⟩)) rfl hmn ⟨by omega, by omega⟩ .nil, rfl, rfl, by omega, by omega⟩, q1, q2⟩
    · have eW1 : nxW n W m (indexOf v 1) = some l := by rw [nx_ag hg hm (index_okX v 1)]; exact e1
      have hln := h.ok.lt hl
      rw [e1]
      simp only
      exact ⟨[r, m, l], [], s.xs, s.xs, ⟨by simp, by simp⟩, way_two eW eW1, .done, .inr (.inr rfl), fun _ => ⟨[r, m, l], W, l, ⟨.nil, rfl, rfl, hln⟩, rfl, hg.upd _ _ _⟩, fun e => (e rfl).elim, hc.leaf _ hx⟩
end
end Go.Proofs.Ytlieommbomjdaaa

namespace Go.Proofs.Ytlieommbomjdaaa
open Go.RowKit
set_option linter.unusedVariables false

section
variable {n : Nat} {s : MS} {E : Int → Prop} {a b r f g i l m v x y : Int} {W W' : WoF} {xs : List FrV}
theorem give_tab {k : Nat} (h : Tab (getF xs) k a l) : giveF xs k = ⟨0, 0, xs.set k zeroF⟩ := by
  obtain ⟨h0, h1, h2⟩ := getF_some h
  rw [Int.toNat_natCast] at h2
  exact atF_at h2 (by show (1 : Int) ≠ 0; decide)
/-- What Remove comes to. -/
structure RemoveLink (n : Nat) (r v f m : Int) (xs : List FrV) (t : MS) (W Wf : WoF) (xf : List FrV) : Prop where
  way : ∀ zs, WayEnd n W r v zs → zs = [r, m, f]
  lt : 0 ≤ f ∧ f < n
  tidy : Tidy n v [r, m, f] (updW W f (indexOf v 0) 0) xs Wf xf
  xs : t.xs = xf
  ag : Ag xf Wf t.W
  can : Can xf t.W
theorem remove_link (h : Inv7 n s a r) (hg : Ag s.xs W s.W) (hc : Can s.xs s.W) (hl : leafW n s.W r v = some (f, y)) :
    (removeM n r v s).1 = true ∧ ∃ m Wf xf, RemoveLink n r v f m s.xs (removeM n r v s).2 W Wf xf := by
  obtain ⟨hp, _, _⟩ := leaf_place hl
  obtain ⟨m, e0, hm, e1, hf⟩ := h.ok.place h.root hp
  have hr := h.root
  have hrn := h.ok.lt hr
  have hmn := h.ok.lt hm
  have hfn := h.ok.lt hf
  have hrm := tab_ne hr hm (by omega)
  have hrf := tab_ne hr hf (by omega)
  have hmf := tab_ne hm hf (by omega)
  have hlen := h.ok.len
  have eN : nxW n s.W r (indexOf v 2) = some m := nx_ent h.ok.le e0 hmn
  have eN1 : nxW n s.W m (indexOf v 1) = some f := nx_ent h.ok.le e1 hfn
  have hway := way_two (n := n) (W := W) (v := v) (by rw [nx_ag hg hr (index_okX v 2)]; exact eN) (by rw [nx_ag hg hm (index_okX v 1)]; exact eN1)
  have ew : removeM n r v s = (true, tidyM n r v (leafM s f v 0)) := by unfold removeM; rw [hl]
  rw [ew]
  refine ⟨rfl, ?_⟩
  show ∃ m Wf xf, RemoveLink n r v f m s.xs (tidyM n r v (leafM s f v 0)) W Wf xf
  have hg1 : Ag s.xs (updW W f (indexOf v 0) 0) (leafM s f v 0).W := hg.upd _ _ _
  have hc1 : Can s.xs (leafM s f v 0).W := hc.leaf _ (.inl rfl)
  have a0 : (leafM s f v 0).W r (indexOf v 2) = entT m := by show updW s.W f (indexOf v 0) 0 r (indexOf v 2) = _; unfold updW; rw [if_neg (fun e => hrf e.1)]; exact e0
  have a1 : (leafM s f v 0).W m (indexOf v 1) = entT f := by show updW s.W f (indexOf v 0) 0 m (indexOf v 1) = _; unfold updW; rw [if_neg (fun e => hmf e.1)]; exact e1
  have n0 : nxW n (leafM s f v 0).W r (indexOf v 2) = some m := nx_ent h.ok.le a0 hmn
  have n1 : nxW n (leafM s f v 0).W m (indexOf v 1) = some f := nx_ent h.ok.le a1 hfn
  have hxs : (leafM s f v 0).xs = s.xs := rfl
  obtain ⟨W1, hW1⟩ : ∃ W1, updW W f (indexOf v 0) 0 = W1 := ⟨_, rfl⟩
  rw [hW1] at hg1
  by_cases c1 : clearW (leafM s f v 0).W f
  · obtain ⟨k, rfl⟩ := Int.eq_ofNat_of_zero_le hfn.1
    have hkl : k < s.xs.length := by omega
    have hgv := give_tab hf
    have s2 : shrinkM n (leafM s k v 0) m (indexOf v 1) = ⟨updW (leafM s k v 0).W m (indexOf v 1) 0, s.xs.set k zeroF, (leafM s k v 0).N - 1⟩ := by
      unfold shrinkM
      rw [n1]
      simp only
      rw [if_pos c1, hxs, hgv]
    have hm2 : Tab (getF (s.xs.set k zeroF)) m a 1 := by rw [getF_set hkl]; exact hm.upd hmf
    have hr2 : Tab (getF (s.xs.set k zeroF)) r a 0 := by rw [getF_set hkl]; exact hr.upd hrf
    have hg2 : Ag (s.xs.set k zeroF) (updW W1 m (indexOf v 1) 0) (updW (leafM s k v 0).W m (indexOf v 1) 0) := (hg1.less hkl).upd _ _ _
    have hc2 : Can (s.xs.set k zeroF) (updW (leafM s k v 0).W m (indexOf v 1) 0) := (hc1.less hkl).leaf _ (.inl rfl)
    have n2 : nxW n (updW (leafM s k v 0).W m (indexOf v 1) 0) r (indexOf v 2) = some m := nx_ent h.ok.le (by unfold updW; rw [if_neg (fun e => hrm e.1)]; exact a0) hmn
    have td : tidyM n r v (leafM s k v 0) = shrinkM n ⟨updW (leafM s k v 0).W m (indexOf v 1) 0, s.xs.set k zeroF, (leafM s k v 0).N - 1⟩ r (indexOf v 2) := by
      unfold tidyM
      rw [n0]
      simp only
      rw [s2]
    rw [td]
    have hz1 : ∀ i, okX i → W1 k i = 0 := fun i hi => (hg1 k a 2 hf i hi).trans (c1 i hi)
    have gv : ∀ Wf xf, Tidy n v [r, m] (updW W1 m (indexOf v 1) 0) (s.xs.set k zeroF) Wf xf → Tidy n v [r, m, (k : Int)] W1 s.xs Wf xf := fun Wf xf ht =>
      Tidy.give (ys := [r, m]) (t := (k : Int)) (p := m) (L := 1) (j := 1) (.inr ⟨rfl, rfl, rfl⟩) rfl hmn hz1 hgv (by rw [List.length_set]; exact hlen) ht
    generalize updW (leafM s k v 0).W m (indexOf v 1) 0 = U2 at *
    generalize updW W1 m (indexOf v 1) 0 = W2 at *
    by_cases c2 : clearW U2 m
    · obtain ⟨q, rfl⟩ := Int.eq_ofNat_of_zero_le hmn.1
      have hql : q < (s.xs.set k zeroF).length := by rw [List.length_set]; omega
      have hgv2 := give_tab hm2
      have s3 : shrinkM n ⟨U2, s.xs.set k zeroF, (leafM s k v 0).N - 1⟩ r (indexOf v 2) = ⟨updW U2 r (indexOf v 2) 0, (s.xs.set k zeroF).set q zeroF, (leafM s k v 0).N - 1 - 1⟩ := by
        unfold shrinkM
        simp only
        rw [n2]
        simp only
        rw [if_pos c2, hgv2]
      rw [s3]
      have hz2 : ∀ i, okX i → W2 q i = 0 := fun i hi => (hg2 q a 1 hm2 i hi).trans (c2 i hi)
      refine ⟨q, _, _, hway, hfn, by rw [hW1]; exact gv _ _ (Tidy.give (ys := [r]) (t := (q : Int)) (p := r) (L := 2) (j := 0) (.inl ⟨rfl, rfl, rfl⟩) rfl hrn hz2 hgv2 (by rw [List.length_set, List.length_set]; exact hlen) .root), rfl, (hg2.less hql).upd _ _ _, (hc2.less hql).leaf _ (.inl rfl)⟩
    · have s3 : shrinkM n ⟨U2, s.xs.set k zeroF, (leafM s k v 0).N - 1⟩ r (indexOf v 2) = ⟨U2, s.xs.set k zeroF, (leafM s k v 0).N - 1⟩ := by
        unfold shrinkM
        simp only
        rw [n2]
        simp only
        rw [if_neg c2]
      rw [s3]
      obtain ⟨i, hi, hne⟩ : ∃ i, okX i ∧ U2 m i ≠ 0 := by
        unfold clearW at c2
        exact Classical.byContradiction fun hno => c2 fun i hi => Classical.byContradiction fun hz => hno ⟨i, hi, hz⟩
      exact ⟨m, _, _, hway, hfn, by rw [hW1]; exact gv _ _ (Tidy.keep (t := m) (j := 1) (.inl ⟨rfl, rfl⟩) rfl ⟨i, hi, by rw [hg2 m a 1 hm2 i hi]; exact hne⟩), rfl, hg2, hc2⟩
  · have s2 : shrinkM n (leafM s f v 0) m (indexOf v 1) = leafM s f v 0 := by
      unfold shrinkM
      rw [n1]
      simp only
      rw [if_neg c1]
    have s3 : shrinkM n (leafM s f v 0) r (indexOf v 2) = leafM s f v 0 := by
      unfold shrinkM
      rw [n0]
      simp only
      rw [if_neg (fun hcl => ent_ne f ((a1.symm).trans (hcl _ (index_okX v 1))))]
    have td : tidyM n r v (leafM s f v 0) = leafM s f v 0 := by
      unfold tidyM
      rw [n0]
      simp only
      rw [s2, s3]
    rw [td]
    obtain ⟨i, hi, hne⟩ : ∃ i, okX i ∧ (leafM s f v 0).W f i ≠ 0 := by
      unfold clearW at c1
      exact Classical.byContradiction fun hno => c1 fun i hi => Classical.byContradiction fun hz => hno ⟨i, hi, hz⟩
    exact ⟨m, _, _, hway, hfn, by rw [hW1]; exact Tidy.keep (t := f) (j := 2) (.inr ⟨rfl, rfl⟩) rfl ⟨i, hi, by rw [hg1 f a 2 hf i hi]; exact hne⟩, rfl, hg1, hc1⟩

/-- The word that a change of flags leaves. -/
theorem change_at {F P : Int} (m f : Nat) (hm : m < 256) (hf : f < 256) : ∃ a Q : Nat, a < 256 ∧ Q < 2 ^ 44 ∧ F % 256 = a ∧ P % 17592186044416 = Q ∧ changeOf (encOf F P) m f = ((2 ^ 10 * Q + ((a &&& (255 ^^^ m)) ||| f) : Nat) : Int) := by
  obtain ⟨a, ha⟩ := Int.eq_ofNat_of_zero_le (show 0 ≤ F % 256 by omega)
  obtain ⟨Q, hQ⟩ := Int.eq_ofNat_of_zero_le (show 0 ≤ P % 17592186044416 by omega)
  refine ⟨a, Q, by omega, by omega, ha, hQ, ?_⟩
  unfold changeOf
  have e1 : encOf F P = ((2 ^ 10 * Q + a : Nat) : Int) := by unfold encOf; rw [ha, hQ]; omega
  have e2 : encOf (m : Nat) 0 = ((m : Nat) : Int) := by unfold encOf; omega
  have e3 : encOf (f : Nat) 0 = ((f : Nat) : Int) := by unfold encOf; omega
  rw [e1, e2, e3]
  exact bits_change (by omega) (by omega) hm hf
theorem and14 (q : Int) : bits .and .i64 (flagsOf q true) 14 = (((flagsOf (q % 8) true).toNat &&& 14 : Nat) : Int) := by
  rw [flagsOf_mod]
  rcases (show q % 8 = 0 ∨ q % 8 = 1 ∨ q % 8 = 2 ∨ q % 8 = 3 ∨ q % 8 = 4 ∨ q % 8 = 5 ∨ q % 8 = 6 ∨ q % 8 = 7 by omega) with e | e | e | e | e | e | e | e <;> rw [e] <;> decide
theorem and14_zero {q : Int} : bits .and .i64 (flagsOf q true) 14 = 0 ↔ q % 8 = 0 := by
  rw [and14]
  rcases (show q % 8 = 0 ∨ q % 8 = 1 ∨ q % 8 = 2 ∨ q % 8 = 3 ∨ q % 8 = 4 ∨ q % 8 = 5 ∨ q % 8 = 6 ∨ q % 8 = 7 by omega) with e | e | e | e | e | e | e | e <;> rw [e] <;> decide
theorem flag_lt (q : Int) : 0 ≤ flagsOf q true ∧ flagsOf q true < 32 := by
  rw [flagsOf_mod]
  rcases (show q % 8 = 0 ∨ q % 8 = 1 ∨ q % 8 = 2 ∨ q % 8 = 3 ∨ q % 8 = 4 ∨ q % 8 = 5 ∨ q % 8 = 6 ∨ q % 8 = 7 by omega) with e | e | e | e | e | e | e | e <;> rw [e] <;> decide
theorem flag_form (q : Int) (hq : q % 8 ≠ 0) : flagsOf q true % 2 = 1 ∧ flagsOf q true / 16 = 1 := by
  rw [flagsOf_mod]
  rcases (show q % 8 = 1 ∨ q % 8 = 2 ∨ q % 8 = 3 ∨ q % 8 = 4 ∨ q % 8 = 5 ∨ q % 8 = 6 ∨ q % 8 = 7 by omega) with e | e | e | e | e | e | e <;> rw [e] <;> decide
theorem ad_form (F : Int) : ∃ k : Int, 0 ≤ k ∧ k ≤ 3 ∧ adOf F = k * 64 := by
  unfold adOf
  rcases one_cases (bit F 64) 64 with h1 | h1 <;> rcases one_cases (bit F 128) 128 with h2 | h2 <;> rw [h1, h2]
  · exact ⟨0, by omega, by omega, by omega⟩
  · exact ⟨2, by omega, by omega, by omega⟩
  · exact ⟨1, by omega, by omega, by omega⟩
  · exact ⟨3, by omega, by omega, by omega⟩
theorem ad_mod (F : Int) : adOf F = adOf (F % 256) := by
  have b1 : bit (F % 256) 64 = bit F 64 := by unfold bit; rw [decide_eq_decide]; omega
  have b2 : bit (F % 256) 128 = bit F 128 := by unfold bit; rw [decide_eq_decide]; omega
  unfold adOf
  rw [b1, b2]
theorem protect_word {y q : Int} (hy : canE y) (hk : kindOf (flagOf y) = 2) (hq : q % 8 ≠ 0) :
    changeOf y 14 (bits .and .i64 (flagsOf q true) 14) = encOf (flagsOf q true + adOf (flagOf y)) (ppnOf y) ∧ canE (encOf (flagsOf q true + adOf (flagOf y)) (ppnOf y)) := by
  rcases hy with rfl | ⟨e, h1, h2⟩
  · exact absurd hk (by decide)
  · obtain ⟨fl0, fl1⟩ := flag_lt q
    obtain ⟨ff1, ff2⟩ := flag_form q hq
    obtain ⟨kk, hk0, hk3, hk2⟩ := ad_form (flagOf y)
    refine ⟨?_, can_enc (by rw [hk2]; omega) (by rw [hk2]; omega)⟩
    have hq8 : (0 : Int) ≤ q % 8 := by omega
    obtain ⟨q8, hq8'⟩ := Int.eq_ofNat_of_zero_le hq8
    have hff : (flagsOf (q % 8) true).toNat &&& 14 < 256 := Nat.lt_of_le_of_lt Nat.and_le_right (by decide)
    obtain ⟨A, Q, hA, hQ, e1, e2, e3⟩ := change_at (F := flagOf y) (P := ppnOf y) 14 ((flagsOf (q % 8) true).toNat &&& 14) (by decide) hff
    rw [and14]
    have e4 : changeOf y 14 (((flagsOf (q % 8) true).toNat &&& 14 : Nat) : Int) = changeOf (encOf (flagOf y) (ppnOf y)) ((14 : Nat) : Int) (((flagsOf (q % 8) true).toNat &&& 14 : Nat) : Int) := by rw [← e]; rfl
    rw [e4, e3]
    have hf256 : 0 ≤ flagOf y ∧ flagOf y < 256 := by unfold flagOf; omega
    have hall := fl_all ⟨A, hA⟩ (by show A % 2 = 1; omega) (by show A / 16 % 4 = 1; omega) ⟨q8, by omega⟩ (by show q8 ≠ 0; omega)
    have hall : ((((A &&& (255 ^^^ 14)) ||| ((flagsOf (q8 : Int) true).toNat &&& 14)) : Nat) : Int) = flagsOf (q8 : Int) true + adOf (A : Int) := hall
    rw [hq8']
    have e5 : flagOf y = A := by omega
    have e6 : flagsOf q true = flagsOf (q8 : Int) true := by rw [flagsOf_mod, hq8']
    rw [e5, e6]
    unfold encOf
    have e7 : ppnOf y % 17592186044416 = Q := e2
    rw [e7]
    have e8 : (flagsOf (q8 : Int) true + adOf (A : Int)) % 256 = flagsOf (q8 : Int) true + adOf (A : Int) := by
      rw [e6] at fl0 fl1
      rw [e5] at hk2
      rw [hk2]
      omega
    rw [e8, ← hall]
    omega
theorem clear_word {y k : Int} (hy : canE y) (hk : kindOf (flagOf y) = 2) :
    changeOf y (hadOf (flagOf y) k) 0 = encOf (flagOf y - hadOf (flagOf y) k) (ppnOf y) ∧ canE (encOf (flagOf y - hadOf (flagOf y) k) (ppnOf y)) := by
  rcases hy with rfl | ⟨e, h1, h2⟩
  · exact absurd hk (by decide)
  · have hf256 : 0 ≤ flagOf y ∧ flagOf y < 256 := by unfold flagOf; omega
    obtain ⟨A, hA⟩ := Int.eq_ofNat_of_zero_le hf256.1
    have hA2 : A < 256 := by omega
    have hc := can_all ⟨A, hA2⟩ (by show A % 2 = 1; omega) (by show A / 16 % 4 = 1; omega) (bit k 64) (bit k 128)
    have hh := had_all ⟨A, hA2⟩ (bit k 64) (bit k 128)
    have hc : ((A : Int) - hadOf (A : Int) k) % 256 % 2 = 1 ∧ ((A : Int) - hadOf (A : Int) k) % 256 / 16 % 4 = 1 := hc
    have hh : ((A &&& (255 ^^^ (hadOf (A : Int) k).toNat) : Nat) : Int) = A - hadOf (A : Int) k := hh
    rw [hA] at e ⊢
    refine ⟨?_, can_enc hc.1 hc.2⟩
    have hb : 0 ≤ hadOf (A : Int) k ∧ hadOf (A : Int) k < 256 := by
      unfold hadOf
      rcases one_cases (bit (A : Int) 64 && bit k 64) 64 with h1 | h1 <;> rcases one_cases (bit (A : Int) 128 && bit k 128) 128 with h2 | h2 <;> rw [h1, h2] <;> omega
    obtain ⟨hd, hhd⟩ := Int.eq_ofNat_of_zero_le hb.1
    obtain ⟨A', Q, hA', hQ, e1, e2, e3⟩ := change_at (F := (A : Int)) (P := ppnOf y) hd 0 (by omega) (by decide)
    have : A' = A := by omega
    subst this
    have e4 : changeOf y (hadOf (A' : Int) k) 0 = changeOf (encOf (A' : Int) (ppnOf y)) (hd : Nat) ((0 : Nat) : Int) := by rw [← e, hhd]; rfl
    rw [e4, e3, Nat.or_zero]
    rw [hhd, Int.toNat_natCast] at hh
    unfold encOf
    rw [e2]
    have hlt : (A' : Int) - hd = ((A' &&& (255 ^^^ hd) : Nat) : Int) := hh.symm
    have hle : A' &&& (255 ^^^ hd) ≤ A' := Nat.and_le_left
    rw [hhd, hlt]
    omega
end
end Go.Proofs.Ytlieommbomjdaaa

namespace Go.Proofs.Ytlieommbomjdaaa
open Go.ChangeShapes Go.WideShapes Go.ChangeAt Go.RowKit Go.Deep
set_option linter.unusedVariables false

/-- A space; one that was closed. -/
def SpS : SpP := fun w x m p a r _ OX => OX = [x] ∧ SpB w x m p a r
def ZpS : World → Nat → List Nat → Prop := fun w x OX => OX = [x] ∧ ZpB w x

section
variable {w0 w w' w2 : World} {m d n p x : Nat} {O OX : List Nat} {a r : Int} {M : List UInt8} {s t : MS} {W W' : WoF} {xs zs : List FrV}
theorem QX.same {d' : Nat} (h1 : St w0 w m d n M) (h2 : St w0 w m d' n M) : d = d' := by
  have := h1.mem.head.symm.trans h2.mem.head
  injection this with this
  injection this with this
  have := congrArg (fun q : Array Value => q[0]?) this
  simp at this
  exact this
theorem PX.qx (h : PX SpS w0 w m d n p O x OX a r s) : OX = [x] ∧ Can s.xs s.W ∧ ∃ M, Ag s.xs (wordI n M) s.W ∧ QX w0 w m d n p O x a r M s.xs := by
  obtain ⟨h1, h2⟩ := h.sp
  obtain ⟨M, h3, h4⟩ := h.pm.mem
  refine ⟨h1, h.pm.can, M, h4, ⟨h3, h.pm.pool, h2, h.pm.num, h.pm.oge, h.pm.apart, h.xge x (by rw [h1]; simp), h.apart x (by rw [h1]; simp)⟩⟩
theorem PM.qm (h : PM w0 w m d n p O W xs) : Can xs W ∧ ∃ M, Ag xs (wordI n M) W ∧ QM w0 w m d n p O M xs := by
  obtain ⟨M, h3, h4⟩ := h.mem
  exact ⟨h.can, M, h4, h3, h.pool, h.num, h.oge, h.apart⟩
theorem QM.pm (h : QM w0 w m d n p O M xs) (hg : Ag xs (wordI n M) W) (hc : Can xs W) : PM w0 w m d n p O W xs := ⟨⟨M, h.st, hg⟩, h.pool, h.num, h.oge, h.apart, hc⟩
theorem QML.pml (h : QML w0 w w' m d n p O M xs) (hg : Ag xs (wordI n M) W) (hc : Can xs W) : PML w0 w w' m d n p O W xs := by
  obtain ⟨O', h1, h2, h3⟩ := h
  exact ⟨O', h1.pm hg hc, h2, h3⟩
theorem QX.px (h : QX w0 w m d n p O x a r M s.xs) (hg : Ag s.xs (wordI n M) s.W) (hc : Can s.xs s.W) : PX SpS w0 w m d n p O x [x] a r s :=
  ⟨h.qm.pm hg hc, ⟨rfl, h.sp⟩, fun b hb => by rw [List.mem_singleton.1 hb]; exact h.xge, fun b hb => by rw [List.mem_singleton.1 hb]; exact h.xn⟩
theorem QXL.px (h : QXL w0 w w' m d n p O x a r M t.xs) (hg : Ag t.xs (wordI n M) t.W) (hc : Can t.xs t.W) : PXL SpS w0 w w' m d n p O x [x] a r t := by
  obtain ⟨O', h1, h2, h3⟩ := h
  exact ⟨O', [x], h1.px hg hc, h2.mono fun b hb => by rcases List.mem_cons.1 hb with e | hb <;> simp [*], h3, fun b hb => .inl hb⟩
theorem QWL.px (h : QWL w0 w w' m d n p O x a r W' xs) (hx : t.xs = xs) (hg : Ag xs W' t.W) (hc : Can t.xs t.W) : PXL SpS w0 w w' m d n p O x [x] a r t := by
  obtain ⟨M', e, h⟩ := h
  subst hx
  exact QXL.px h (by rw [e]; exact hg) hc
theorem leafE_ag (hI : Inv7 n s a r) (hg : Ag s.xs W s.W) (v : Int) : leafE n W r v = leafE n s.W r v := by
  unfold leafE
  rw [hI.ok.leaf_ag hg hI.root]

theorem leaf_some {v f y : Int} (h : leafW n s.W r v = some (f, y)) : leafE n s.W r v = some (flagOf y, ppnOf y) := by unfold leafE; rw [h]; rfl
theorem leaf_no {v : Int} (h : leafW n s.W r v = none) : leafE n s.W r v = none := by unfold leafE; rw [h]; rfl
theorem take_len {l : Int} {k : Nat} (hx : xs.length = n) (h : takeF 0 xs 1 a l = ⟨k, 0, zs⟩) : zs.length = n ∧ ∃ y, zs = xs.set k y ∨ zs = xs := by
  have hc : ¬ ¬ isCls 1 := not_not_intro ⟨by decide, by decide⟩
  unfold takeF at h
  rw [if_neg hc] at h
  by_cases hz : countF xs 0 = 0 ∨ (1 : Int) ≠ 1 ∧ countF xs 0 ≤ 0
  · rw [if_pos hz] at h
    injection h with _ e; exact absurd e (by decide)
  · rw [if_neg hz] at h
    unfold takeAt at h
    split at h
    · injection h with h1 _ h3
      rw [← h3, List.length_set]
      exact ⟨hx, _, .inl (by rw [show k = _ from (Int.ofNat.inj h1).symm])⟩
    · injection h with _ e; exact absurd e (by decide)
end

theorem pmOk : PmOk SpS ZpS where
  lt := by
    rintro w x m p a r N OX ⟨rfl, h⟩ b hb
    rw [List.mem_singleton.1 hb]; exact h.lt
  kept := by
    rintro w w' x m p a r N OX ⟨rfl, h⟩ _ hb
    exact ⟨rfl, h.kept (hb x (by simp))⟩
  newNo := by
    intro w0 w m d n p O W xs h a k ha hk h0
    obtain ⟨hc, M, hg, hq⟩ := h.qm
    refine (sp_new_no hq ha k hk h0).mono ?_
    rintro e w' ⟨rfl, h1⟩
    exact ⟨rfl, h1.pml hg hc⟩
  newOk := by
    intro w0 w m d n p O W xs h hM a k zs ha hkn hk
    obtain ⟨hc, M, hg, hq⟩ := h.qm
    have hkl : k < xs.length := by rw [h.num]; exact hkn
    have hzs : zs = xs.set k (tabF a 0) := by
      rcases take_alt hM a 0 with e | ⟨k', _, e, _⟩
      · have e : takeF 0 xs 1 a 0 = ⟨0, 5, xs⟩ := e
        rw [hk] at e
        injection e with _ e; exact absurd e (by decide)
      · have e : takeF 0 xs 1 a 0 = ⟨k', 0, xs.set k' (tabF a 0)⟩ := e
        rw [hk] at e
        injection e with e1 _ e3
        rw [e3, show k = k' by omega]
    have hzl : zs.length = n := by rw [hzs, List.length_set]; exact h.num
    refine (sp_new_ok hq ha k hkn hk hzl).mono ?_
    rintro e w' ⟨x, O', M', rfl, h1, h2, h3, h4, h5⟩
    have hg' : Ag zs (wordI n M') (zeroW W k) := by rw [h2, hzs]; exact hg.new hkl _
    have hc' : Can zs (zeroW W k) := by rw [hzs]; exact hc.new hkl _
    exact ⟨x, O', [x], rfl, QX.px (s := ⟨zeroW W k, zs, 1⟩) h1 hg' hc', h3, h4, fun b hb => by rw [List.mem_singleton.1 hb]; exact h5⟩
  root := by
    intro w0 w m d n p O x OX a r s h hI
    obtain ⟨rfl, hc, M, hg, hq⟩ := h.qx
    refine (sp_root hq.sp).mono ?_
    rintro e w' ⟨rfl, rfl⟩
    exact ⟨rfl, grown_refl _ _⟩
  tables := by
    intro w0 w m d n p O x OX a r s h hI
    obtain ⟨rfl, hc, M, hg, hq⟩ := h.qx
    have ht := hI.ok.tabs_ag hg hI.root
    refine (sp_tables hq.sp hq.st (by rw [ht]; exact hI.ok.tabs_nodup hI.root)).mono ?_
    rintro e w' ⟨rfl, h1⟩
    refine ⟨?_, h1⟩
    rw [ht, hI.ok.tabs_len hI.root, hI.N]
  find := by
    intro w0 w m d n p O x OX a r s h hI v hv
    obtain ⟨rfl, hc, M, hg, hq⟩ := h.qx
    refine (sp_find hq.sp hq.st v).mono ?_
    rintro e w' ⟨rfl, h1⟩
    rw [leafE_ag hI hg]
    exact ⟨rfl, h1⟩
  enter := by
    intro w0 w m d n p O x OX a r s h hI v fr q hv hfr hq7
    obtain ⟨rfl, hc, M, hg, hq⟩ := h.qx
    by_cases hok : (0 ≤ v ∧ v < 67108864) ∧ (1 ≤ q ∧ q ≤ 7) ∧ (0 ≤ fr ∧ fr < n)
    · have hx : canE (encOf (flagsOf q true) fr) := by
        obtain ⟨f1, f2⟩ := flag_form q (by omega)
        obtain ⟨f3, f4⟩ := flag_lt q
        exact can_enc (by omega) (by omega)
      obtain ⟨ys, ts, us, vs, hl⟩ := enter_link hI hg hc v _ hx
      have e1 : enterM n a r v fr q s = enter1 n a r v (encOf (flagsOf q true) fr) s := enterM_in hok.1 hok.2.1 hok.2.2
      rw [e1]
      by_cases h0 : (enter1 n a r v (encOf (flagsOf q true) fr) s).1 = 0
      · obtain ⟨yf, Wf, lf, hp, hxs, hag⟩ := hl.puts h0
        refine (sp_enter hq hI.a v fr q hok.1 hok.2.1 hok.2.2 ys hl.len hl.way hl.takes hl.back yf Wf lf (fun _ => hp)).mono ?_
        rintro e w' ⟨rfl, (⟨_, h1⟩ | ⟨h1, _⟩)⟩
        · exact ⟨rfl, h1.px hxs hag hl.can⟩
        · exact (h1 h0).elim
      · obtain ⟨hxs, hag⟩ := hl.no h0
        refine (sp_enter hq hI.a v fr q hok.1 hok.2.1 hok.2.2 ys hl.len hl.way hl.takes hl.back [] (wordI n M) 0 (fun k => (h0 k).elim)).mono ?_
        rintro e w' ⟨rfl, (⟨h1, _⟩ | ⟨_, h1⟩)⟩
        · exact (h0 h1).elim
        · refine ⟨rfl, QXL.px (t := (enter1 n a r v (encOf (flagsOf q true) fr) s).2) (by rw [hxs]; exact h1) (by rw [hxs]; exact hag) hl.can⟩
    · have e1 : enterM n a r v fr q s = (2, s) := if_neg hok
      rw [e1]
      refine (sp_enter_no hq v fr q hok).mono ?_
      rintro e w' ⟨rfl, rfl⟩
      exact ⟨rfl, QXL.px hq.stay hg hc⟩
  remove := by
    intro w0 w m d n p O x OX a r s h hI v hv
    obtain ⟨rfl, hc, M, hg, hq⟩ := h.qx
    cases hl : leafW n s.W r v with
    | none =>
      have e1 : removeM n r v s = (false, s) := by unfold removeM; rw [hl]
      rw [e1]
      refine (sp_remove_no hq v (by rw [leafE_ag hI hg, leaf_no hl])).mono ?_
      rintro e w' ⟨rfl, h1⟩
      exact ⟨rfl, QXL.px (hq.stay' h1) hg hc⟩
    | some fy =>
      obtain ⟨f, y⟩ := fy
      obtain ⟨h0, m1, Wf, xf, hk⟩ := remove_link hI hg hc hl
      refine (sp_remove hq v _ _ r m1 f (by rw [leafE_ag hI hg, leaf_some hl]) hk.way hk.lt Wf hk.tidy).mono ?_
      rintro e w' ⟨rfl, h1⟩
      rw [h0]
      exact ⟨rfl, h1.px hk.xs hk.ag (by rw [hk.xs]; exact hk.can)⟩
  protect := by
    intro w0 w m d n p O x OX a r s h hI v q hv hq7
    obtain ⟨rfl, hc, M, hg, hq⟩ := h.qx
    by_cases hq8 : q % 8 = 0
    · have h14 := and14_zero.2 hq8
      cases hl : leafW n s.W r v with
      | none =>
        have e1 : protectM n r v q s = (false, s) := by unfold protectM; rw [hl]
        rw [e1]
        refine (sp_protect_0 (x := x) v q h14 false (fun W => QXL w0 w W m d n p O x a r M s.xs) fun W gW => (sp_remove_no (hq.grow gW) v (by rw [leafE_ag hI hg, leaf_no hl])).mono ?_).mono ?_
        · rintro e w' ⟨rfl, h1⟩
          exact ⟨rfl, hq.stay' (grown_trans gW h1)⟩
        · rintro e w' ⟨rfl, h1⟩
          exact ⟨rfl, QXL.px h1 hg hc⟩
      | some fy =>
        obtain ⟨f, y⟩ := fy
        have e1 : protectM n r v q s = removeM n r v s := by unfold protectM; rw [hl]; exact if_pos hq8
        obtain ⟨h0, m1, Wf, xf, hk⟩ := remove_link hI hg hc hl
        rw [e1, h0]
        refine (sp_protect_0 (x := x) v q h14 true (fun W => QWL w0 w W m d n p O x a r Wf xf) fun W gW => (sp_remove (hq.grow gW) v _ _ r m1 f (by rw [leafE_ag hI hg, leaf_some hl]) hk.way hk.lt Wf hk.tidy).mono ?_).mono ?_
        · rintro e w' ⟨rfl, M', e2, h1⟩
          exact ⟨rfl, M', e2, h1.since gW⟩
        · rintro e w' ⟨rfl, h1⟩
          exact ⟨rfl, h1.px hk.xs hk.ag (by rw [hk.xs]; exact hk.can)⟩
    · have h14 : bits .and .i64 (flagsOf q true) 14 ≠ 0 := fun e => hq8 (and14_zero.1 e)
      cases hl : leafW n s.W r v with
      | none =>
        have e1 : protectM n r v q s = (false, s) := by unfold protectM; rw [hl]
        rw [e1]
        refine (sp_protect_no hq v q h14 (by rw [leafE_ag hI hg, leaf_no hl])).mono ?_
        rintro e w' ⟨rfl, h1⟩
        exact ⟨rfl, QXL.px (hq.stay' h1) hg hc⟩
      | some fy =>
        obtain ⟨f, y⟩ := fy
        have e1 : protectM n r v q s = (true, leafM s f v (encOf (flagsOf q true + adOf (flagOf y)) (ppnOf y))) := by unfold protectM; rw [hl]; exact if_neg hq8
        obtain ⟨hp, hy, hk⟩ := leaf_place hl
        obtain ⟨m1, _, _, _, hf⟩ := hI.ok.place hI.root hp
        have hfn := hI.ok.lt hf
        have hw : wordI n M f (indexOf v 0) = y := by rw [hg f a 2 hf _ (index_okX v 0)]; exact hy.symm
        obtain ⟨hch, hcn⟩ := protect_word (y := y) (q := q) (by have := hc f a hf _ (index_okX v 0); rw [← hy] at this; exact this) hk hq8
        have hpl : placeOf n M r v = some f := by rw [place_words, hI.ok.place_ag hg hI.root]; exact hp
        rw [e1]
        refine (sp_protect hq v q (flagOf y) (ppnOf y) f h14 (by rw [leafE_ag hI hg, leaf_some hl]) hpl hfn (by rw [hw, hch]; exact okU_enc _ _)).mono ?_
        rintro e w' ⟨rfl, h1⟩
        rw [hw, hch] at h1
        exact ⟨rfl, h1.px (t := leafM s f v _) rfl (hg.upd _ _ _) (hc.leaf _ hcn)⟩
  clear := by
    intro w0 w m d n p O x OX a r s h hI v k hv hk7
    obtain ⟨rfl, hc, M, hg, hq⟩ := h.qx
    cases hl : leafW n s.W r v with
    | none =>
      have e1 : clearM n r v k s = (0, s) := by unfold clearM; rw [hl]
      rw [e1]
      refine (sp_clearF_no hq v k (by rw [leafE_ag hI hg, leaf_no hl])).mono ?_
      rintro e w' ⟨rfl, h1⟩
      exact ⟨rfl, QXL.px (hq.stay' h1) hg hc⟩
    | some fy =>
      obtain ⟨f, y⟩ := fy
      have e1 : clearM n r v k s = (hadOf (flagOf y) k, leafM s f v (encOf (flagOf y - hadOf (flagOf y) k) (ppnOf y))) := by unfold clearM; rw [hl]
      obtain ⟨hp, hy, hk⟩ := leaf_place hl
      obtain ⟨m1, _, _, _, hf⟩ := hI.ok.place hI.root hp
      have hfn := hI.ok.lt hf
      have hw : wordI n M f (indexOf v 0) = y := by rw [hg f a 2 hf _ (index_okX v 0)]; exact hy.symm
      obtain ⟨hch, hcn⟩ := clear_word (y := y) (k := k) (by have := hc f a hf _ (index_okX v 0); rw [← hy] at this; exact this) hk
      have hpl : placeOf n M r v = some f := by rw [place_words, hI.ok.place_ag hg hI.root]; exact hp
      rw [e1]
      refine (sp_clearF hq v k (flagOf y) (ppnOf y) f (by rw [leafE_ag hI hg, leaf_some hl]) hpl hfn (by rw [hw, hch]; exact okU_enc _ _)).mono ?_
      rintro e w' ⟨rfl, h1⟩
      rw [hw, hch] at h1
      exact ⟨rfl, h1.px (t := leafM s f v _) rfl (hg.upd _ _ _) (hc.leaf _ hcn)⟩
  close := by
    intro w0 w m d n p O x OX a r s h hI
    obtain ⟨rfl, hc, M, hg, hq⟩ := h.qx
    have ht := hI.ok.tabs_ag hg hI.root
    have hmem : ∀ g, g ∈ sortL (tabsL n (wordI n M) r) ↔ ∃ l, Tab (getF s.xs) g a l := fun g => by rw [sortL_mem, ht]; exact hI.ok.tabs_mem hI.root g
    have hcl := hI.ok.close_any hI.root hmem
    obtain ⟨c1, c2, c3, _⟩ := hI.ok.close hI.root 0
    refine (sp_close hq (by rw [ht]; exact hI.ok.tabs_nodup hI.root) fun k xk c hk => ?_).mono ?_
    · have := (giveAll_ok a ((sortL (tabsL n (wordI n M) r)).take k) 0 s.xs fun f hf => .inr ((hmem f).1 (List.mem_of_mem_take hf))).1
      rw [hk] at this
      exact this.trans hI.ok.len
    · rintro e w' ⟨rfl, O', h1, h2, h3, h4, h5⟩
      rw [hcl] at h1 ⊢
      have old : ∀ f b l, Tab (getF (closeM n r s).2) f b l → Tab (getF s.xs) f b l := fun f b l hf => by
        by_cases c : ∃ l, Tab (getF s.xs) f a l
        · obtain ⟨l', hl'⟩ := c
          exact (hf.notFree (c2 f l' hl')).elim
        · unfold Tab at hf ⊢
          rw [← c3 f fun l hl => c ⟨l, hl⟩]; exact hf
      refine ⟨rfl, O', [x], h1.pm (fun f b l hf j hj => hg f b l (old f b l hf) j hj) (fun f b hf j hj => hc f b (old f b 2 hf) j hj), ⟨rfl, h2⟩, fun b hb => ?_, h4.mono fun b hb => by simp only [List.mem_cons, List.mem_append, List.not_mem_nil, or_false] at hb ⊢; rcases hb with hb | hb | hb <;> simp [hb], h5, fun b hb => .inl hb⟩
      rw [List.mem_singleton.1 hb]
      exact ⟨hq.xge, h3⟩
  zlt := by
    rintro w x OX ⟨rfl, h⟩ b hb
    rw [List.mem_singleton.1 hb]; exact h.lt
  zkept := by
    rintro w w' x OX ⟨rfl, h⟩ _ hb
    exact ⟨rfl, (hb x (by simp)).trans h⟩
  ztables := by
    rintro w x OX ⟨rfl, h⟩
    refine (no_tables _ (zp_made h)).mono ?_
    rintro e w' ⟨rfl, rfl⟩
    exact ⟨rfl, grown_refl _ _⟩
  zroot := by
    rintro w x OX ⟨rfl, h⟩
    refine (no_root _ (zp_made h)).mono ?_
    rintro e w' ⟨rfl, rfl⟩
    exact ⟨rfl, grown_refl _ _⟩
end Go.Proofs.Ytlieommbomjdaaa
