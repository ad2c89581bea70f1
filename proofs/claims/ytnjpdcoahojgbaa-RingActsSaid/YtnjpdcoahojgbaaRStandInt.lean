/- Package ring at items of kind int: an item leaves its row; an item comes into one. -/
import Derived.Test.YtnjpdcoahojgbaaRLowInt
namespace Go.Proofs.Ytnjpdcoahojgbaa.RInt
open Go.ChangeShapes Go.WideShapes Go.ChangeAt Go.RowKit
set_option linter.unusedVariables false

/-- The rows S have become S', and nothing else has turned. -/
def Turned (w : World) (b L M cap : Nat) (S S' : List (List (K × Nat))) (v : Value) (e : Ending) (w' : World) : Prop :=
  e = .returned v ∧ (∃ F', At w' F' b L M cap S') ∧ Kept (own b L M S) w w' ∧ ∀ g, g ∈ own b L M S' → g ∈ own b L M S ∨ w.heap.size ≤ g

theorem M_far {w : World} {F : Gm} {b L M cap : Nat} {S : List (List (K × Nat))} (h : At w F b L M cap S) {y o : Nat} {v : Value} (hv : F y o = some v) : M ≠ y := by
  rintro rfl
  exact h.mapApart _ _ hv

theorem leave_ok {w : World} {F : Gm} {b L M cap a : Nat} {x : K} {S1 S2 : List (List (K × Nat))} {l1 l2 : List (K × Nat)} (h : At w F b L M cap (S1 ++ (l1 ++ (x, a) :: l2) :: S2)) :
    Calls Try.prog 43 #[.pointer (some ⟨b, 0, none⟩), .pointer (some ⟨a, 0, none⟩)] w (Turned w b L M cap (S1 ++ (l1 ++ (x, a) :: l2) :: S2) (S1 ++ (l1 ++ l2) :: S2) (.tuple #[])) := by
  obtain ⟨p, q, a2, a3, p3, q2, a0, a1, cn, pb, qb, pa, qa, alp, alq, pin, qin, hR⟩ := h.ring.cut
  have hfl : (S1 ++ (l1 ++ (x, a) :: l2) :: S2).flatten = (S1.flatten ++ l1) ++ (x, a) :: (l2 ++ S2.flatten) := by simp
  have hfl2 : (S1 ++ (l1 ++ l2) :: S2).flatten = (S1.flatten ++ l1) ++ (l2 ++ S2.flatten) := by simp
  have hmax := h.max
  have hlen1 : (l1 ++ (x, a) :: l2).length = (l1 ++ l2).length + 1 := by simp; omega
  have hlen2 : (S1 ++ (l1 ++ (x, a) :: l2) :: S2).flatten.length = (S1 ++ (l1 ++ l2) :: S2).flatten.length + 1 := by rw [hfl, hfl2]; simp; omega
  have hle : (l1 ++ (x, a) :: l2).length ≤ (S1 ++ (l1 ++ (x, a) :: l2) :: S2).flatten.length := by simp; omega
  have hmap := h.map
  have hkeys := h.keys
  rw [hfl] at hmap hkeys
  have ain : a ∈ own b L M (S1 ++ (l1 ++ (x, a) :: l2) :: S2) := by unfold own; rw [hfl]; simp
  have inO : ∀ y : Pl, (y.1 = L ∨ y.1 ∈ (S1 ++ (l1 ++ (x, a) :: l2) :: S2).flatten.map (·.2)) → y.1 ∈ own b L M (S1 ++ (l1 ++ (x, a) :: l2) :: S2) := by
    intro y hy
    unfold own
    simp only [List.mem_cons]
    rcases hy with r | r
    · exact .inr (.inl r)
    · exact .inr (.inr (.inr r))
  have hsub : ∀ n, n ∈ (S1 ++ (l1 ++ l2) :: S2).flatten → n ∈ (S1 ++ (l1 ++ (x, a) :: l2) :: S2).flatten := by
    intro n hn
    rw [hfl2] at hn
    rw [hfl]
    simp only [List.mem_append, List.mem_cons] at hn ⊢
    rcases hn with r | r
    · exact .inl r
    · exact .inr (.inr r)
  refine (leave_low w F b L M _ cap a p.1 p.2 q.1 q.2 S1.length _ _ x _ _ h.holds h.ring.lines h.ring.wh h.ring.items a0 a1 a2 a3 p3 q2 cn (by simp) pb qb pa qa (Ne.symm h.ring.bL) (h.ring.nb (n := (x, a)) (by simp)) (Ne.symm (h.ring.nL (n := (x, a)) (by simp))) alp alq
    ⟨by omega, by omega⟩ ⟨by omega, by omega⟩ _ _ hmap hkeys (h.ok (x, a) (by simp)) ⟨M_far h h.ring.lines, M_far h cn, M_far h p3, M_far h q2⟩ (own b L M (S1 ++ (l1 ++ (x, a) :: l2) :: S2)) ⟨by simp [own], by simp [own], by simp [own], inO p pin, inO q qin⟩).mono ?_
  rintro e w' ⟨rfl, hH, hM, hK⟩
  refine ⟨rfl, ⟨_, hH, ?_, by rw [hfl2]; exact hM, ?_, fun n hn => h.ok n (hsub n hn), by omega, by have := h.rows; simpa using this, by have := h.cap; simpa using this⟩, hK, ?_⟩
  · have e1 : (l1 ++ (x, a) :: l2).length - 1 = (l1 ++ l2).length := by omega
    have e2 : (S1 ++ (l1 ++ (x, a) :: l2) :: S2).flatten.length - 1 = (S1 ++ (l1 ++ l2) :: S2).flatten.length := by omega
    rw [e1, e2]
    exact hR
  · rw [hfl2]
    refine hkeys.sublist ?_
    simp
  · intro g hg
    left
    unfold own at hg ⊢
    simp only [List.mem_cons] at hg ⊢
    rcases hg with r | r | r | r
    · exact .inl r
    · exact .inr (.inl r)
    · exact .inr (.inr (.inl r))
    · obtain ⟨n, hn, rfl⟩ := List.mem_map.1 r
      exact .inr (.inr (.inr (List.mem_map.2 ⟨n, hsub n hn, rfl⟩)))

/-- stand, by what stands in the cells. -/
theorem stand_low (w : World) (F : Gm) (b L M R cap pB po qB qo r n t : Nat) (x : K) (k2 : Value) (hh : Holds w F)
    (c0 : F b 0 = some (.slice (some ⟨L, 0, none⟩) R cap)) (c1 : F b 1 = some (.map (some M))) (c2 : F b 2 = some (.int .i64 t))
    (p3 : F pB (po + 3) = some (.pointer (some ⟨qB, qo, none⟩))) (q2 : F qB (qo + 2) = some k2) (cn : F L (r * 5 + 4) = some (.int .i64 n)) (hr : r < R)
    (h1 : ¬ pB = b) (h2 : ¬ qB = b) (h5 : ¬ L = b) (alp : Al (pB, po)) (alq : Al (qB, qo))
    (hn : n ≤ 4096) (ht : t ≤ 4096) (N : List (K × Nat)) (hN : N.length ≤ 4096) (hm : MapOf Try.prog 3 kl w M N) (hno : ∀ m, m ∈ N → m.1 ≠ x) (hx : okK x) (hMo : M ≠ b ∧ M ≠ L ∧ M ≠ pB ∧ M ≠ qB)
    (O : List Nat) (hO : b ∈ O ∧ L ∈ O ∧ M ∈ O ∧ pB ∈ O ∧ qB ∈ O) :
    Calls Try.prog 41 #[.pointer (some ⟨b, 0, none⟩), .int .i64 r, Value.int .i64 x, .pointer (some ⟨pB, po, none⟩)] w
      (LeftLow w (upd (upd (laid (news F w.heap.size #[Value.int .i64 x, .int .i64 r, ptr (pB, po), ptr (qB, qo)]) (pB, po) (qB, qo) (ptr (w.heap.size, 0)) (ptr (w.heap.size, 0))) L (r * 5 + 4) (.int .i64 (n + 1 : Nat))) b 2 (.int .i64 (t + 1 : Nat))) M ((x, w.heap.size) :: N) O) := by
  have HM := Lib.hid hm
  have HN := Lib.hid hno
  have HX := Lib.hid hx
  have HO := Lib.hid hO
  obtain ⟨m1, m2, m3, m4⟩ := hMo
  clear hm hno hx hO
  have alp' : po % 5 = 0 := alp
  have alq' : qo % 5 = 0 := alq
  have lb := hh.lt c0
  have lL := hh.lt cn
  have lp := hh.lt p3
  have lq := hh.lt q2
  have d0 := hh.cell _ _ _ p3
  have HA := Lib.hid (hh.alloc_new #[Value.int .i64 x, .int .i64 r, ptr (pB, po), ptr (qB, qo)] 59)
  have HMA := Lib.hid (HM.out.kept (w' := w.alloc (.cells #[Value.int .i64 x, .int .i64 r, ptr (pB, po), ptr (qB, qo)] 59)) (Below.heap_alloc _ _ _ HM.out.lt))
  have HKA := Lib.hid ((Kept.refl O w).alloc (.cells #[Value.int .i64 x, .int .i64 r, ptr (pB, po), ptr (qB, qo)] 59))
  have lM := HM.out.lt
  unfold ptr at HA HMA HKA
  simp only at HA HMA HKA
  go_enter Try.func41, Try.ntmps41
  go_wp2
  unfold ptr
  simp only
  clear d0
  generalize w.alloc (.cells #[Value.int .i64 x, .int .i64 r, .pointer (some ⟨pB, po, none⟩), .pointer (some ⟨qB, qo, none⟩)] 59) = w1 at *
  generalize w.heap.size = a at *
  generalize hG : news F a #[Value.int .i64 x, .int .i64 r, .pointer (some ⟨pB, po, none⟩), .pointer (some ⟨qB, qo, none⟩)] = G at *
  have HG := Lib.hid hG
  have far : ∀ {y o : Nat} {v : Value}, F y o = some v → y < a → G y o = some v := by
    intro y o v hv hy
    rw [← hG]
    unfold news
    rw [if_neg (by omega)]
    exact hv
  have g2 : G a 2 = some (.pointer (some ⟨pB, po, none⟩)) := by rw [← hG]; simp [news]
  have g3 : G a 3 = some (.pointer (some ⟨qB, qo, none⟩)) := by rw [← hG]; simp [news]
  have b0' := far c0 lb
  have b1' := far c1 lb
  have b2' := far c2 lb
  have n' := far cn lL
  have p3' := far p3 lp
  have q2' := far q2 lq
  clear hG far
  have d1 := HA.out.cell _ _ _ g2
  have d2 := HA.out.cell _ _ _ g3
  have d3 := HA.out.cell _ _ _ p3'
  have d4 := HA.out.free _ _ _ p3'
  have d5 := HA.out.cell _ _ _ q2'
  have d6 := HA.out.free _ _ _ q2'
  have hh1 := HA.out.set p3' (.pointer (some ⟨a, 0, none⟩))
  have q2'' : upd G pB (po + 3) (.pointer (some ⟨a, 0, none⟩)) qB (qo + 2) = some k2 := by rw [upd_other (by omega)]; exact q2'
  have d8 := hh1.cell _ _ _ q2''
  have hh2 := (hh1.set q2'' (.pointer (some ⟨a, 0, none⟩))).drew
  have HH := Lib.hid hh2
  have HM1 := Lib.hid (show MapOf Try.prog 3 kl (((w1.setCell ⟨pB, po + 3, none⟩ (.pointer (some ⟨a, 0, none⟩))).setCell ⟨qB, qo + 2, none⟩ (.pointer (some ⟨a, 0, none⟩))).drew) M N from
    HMA.out.kept ((heap_setCell_other _ _ _ _ m4).trans (heap_setCell_other _ _ _ _ m3)))
  have HK1 := Lib.hid (show Kept O w (((w1.setCell ⟨pB, po + 3, none⟩ (.pointer (some ⟨a, 0, none⟩))).setCell ⟨qB, qo + 2, none⟩ (.pointer (some ⟨a, 0, none⟩))).drew) from
    ((HKA.out.setCell HO.out.2.2.2.1 _).setCell HO.out.2.2.2.2 _).drew)
  clear hh hh1 hh2
  go_region
  clear d1 d2 d3 d4 d5 d6 d8
  generalize ((w1.setCell ⟨pB, po + 3, none⟩ (.pointer (some ⟨a, 0, none⟩))).setCell ⟨qB, qo + 2, none⟩ (.pointer (some ⟨a, 0, none⟩))).drew = w2 at *
  generalize hF : upd (upd G pB (po + 3) (.pointer (some ⟨a, 0, none⟩))) qB (qo + 2) (.pointer (some ⟨a, 0, none⟩)) = F1 at *
  have HF := Lib.hid hF
  clear hF
  have far : ∀ {y o : Nat} {v : Value}, G y o = some v → ¬ (y = pB ∧ o = po + 3) → ¬ (y = qB ∧ o = qo + 2) → F1 y o = some v := by
    intro y o v hv e1 e2
    rw [← HF.out, upd_other e2, upd_other e1]
    exact hv
  have b0'' := far b0' (by omega) (by omega)
  have b1'' := far b1' (by omega) (by omega)
  have b2'' := far b2' (by omega) (by omega)
  have n'' := far n' (by omega) (by omega)
  have e0 := HH.out.cell _ _ _ b0''
  have e1 := HH.out.cell _ _ _ b1''
  have e2 := HH.out.cell _ _ _ b2''
  have e3 := HH.out.free _ _ _ b2''
  have e6 := HH.out.cell _ _ _ n''
  have e7 := HH.out.free _ _ _ n''
  have u1 := HH.out.set n'' (.int .i64 ((n : Int) + 1))
  have u2 := u1.set (b := b) (o := 2) (u := .int .i64 t) (by rw [upd_other (by omega)]; exact b2'') (.int .i64 ((t : Int) + 1))
  have e8 := u1.cell _ _ _ (show upd F1 L (r * 5 + 4) (.int .i64 ((n : Int) + 1)) b 2 = some (.int .i64 t) from (upd_other (by omega)).trans b2'')
  have e9 := u2.cell _ _ _ (show upd (upd F1 L (r * 5 + 4) (.int .i64 ((n : Int) + 1))) b 2 (.int .i64 ((t : Int) + 1)) b 1 = some (.map (some M)) from (upd_other (by omega)).trans ((upd_other (by omega)).trans b1''))
  have HU := Lib.hid u2
  have HM2 := Lib.hid (show MapOf Try.prog 3 kl ((w2.setCell ⟨L, r * 5 + 4, none⟩ (.int .i64 ((n : Int) + 1))).setCell ⟨b, 2, none⟩ (.int .i64 ((t : Int) + 1))) M N from
    HM1.out.kept ((heap_setCell_other _ _ _ _ m1).trans (heap_setCell_other _ _ _ _ m2)))
  have HK2 := Lib.hid ((HK1.out.setCell (o := r * 5 + 4) HO.out.2.1 (.int .i64 ((n : Int) + 1))).setCell (o := 2) HO.out.1 (.int .i64 ((t : Int) + 1)))
  clear u1 u2
  clear far c0 c1 c2 p3 q2 cn b0' b1' b2' n' b0'' b1'' b2'' n'' p3' q2' q2'' g2 g3
  obtain ⟨w3, hrun, hm3, ht3⟩ := HM2.out.put laws (by unfold maxLen; omega) a HN.out HX.out
  have HM3 := Lib.hid hm3
  have HT3 := Lib.hid ht3
  have hrun' : (Instr.mapUpdate 49 (.map (some M)) (Value.int .i64 x) (.pointer (some ⟨a, 0, none⟩))).run Try.prog ((w2.setCell ⟨L, r * 5 + 4, none⟩ (.int .i64 ((n : Int) + 1))).setCell ⟨b, 2, none⟩ (.int .i64 ((t : Int) + 1))) = .ok () w3 := hrun
  clear hm3 ht3 hrun
  go_wp2
  go_end0
  refine ⟨rfl, ?_, HM3.out, HK2.out.trans (mapTurned_kept HT3.out HO.out.2.2.1)⟩
  have h1 : Holds w3 (upd (upd F1 L (r * 5 + 4) (.int .i64 ((n : Int) + 1))) b 2 (.int .i64 ((t : Int) + 1))) := by
    refine HU.out.kept fun y o v hv => ?_
    have hg := HT3.out.grown
    have hlt := HU.out.lt hv
    refine hg.block y hlt ?_
    intro e
    cases e
    obtain ⟨cs, T, fr, hc⟩ := HU.out.cells hv
    obtain ⟨es, cl, hmm⟩ := HM2.out.isMap
    rw [hmm] at hc
    simp at hc
  have e1 : ((n + 1 : Nat) : Int) = (n : Int) + 1 := by omega
  have e2 : ((t + 1 : Nat) : Int) = (t : Int) + 1 := by omega
  have e3 : laid (news F a #[Value.int .i64 x, .int .i64 r, ptr (pB, po), ptr (qB, qo)]) (pB, po) (qB, qo) (ptr (a, 0)) (ptr (a, 0)) = F1 := by
    rw [← HF.out, ← HG.out]
    rfl
  rw [e1, e2, e3]
  exact h1

theorem news_far {F : Gm} {a : Nat} {cs : Array Value} {y o : Nat} (h : y ≠ a) : news F a cs y o = F y o := by simp [news, h]

/-- An item that stands nowhere comes to stand between two places of a row. -/
theorem stand_ok {w : World} {F : Gm} {b L M cap : Nat} {x : K} {S1 S2 : List (List (K × Nat))} {l1 l2 : List (K × Nat)} (h : At w F b L M cap (S1 ++ (l1 ++ l2) :: S2)) (hx : okK x) (hno : x ∉ (S1 ++ (l1 ++ l2) :: S2).flatten.map (·.1)) (hlt : (S1 ++ (l1 ++ l2) :: S2).flatten.length < 4096)
    (A : List Pl) (p : Pl) (hA : endOf L S1.length :: l1.map nd = A ++ [p]) :
    Calls Try.prog 41 #[.pointer (some ⟨b, 0, none⟩), .int .i64 S1.length, Value.int .i64 x, .pointer (some ⟨p.1, p.2, none⟩)] w
      (Turned w b L M cap (S1 ++ (l1 ++ l2) :: S2) (S1 ++ (l1 ++ (x, w.heap.size) :: l2) :: S2) (.tuple #[])) := by
  obtain ⟨q, B, hB⟩ := cons_of_concat (endOf L S1.length) (l2.map nd)
  have hfl : (S1 ++ (l1 ++ (x, w.heap.size) :: l2) :: S2).flatten = (S1.flatten ++ l1) ++ (x, w.heap.size) :: (l2 ++ S2.flatten) := by simp
  have hfl2 : (S1 ++ (l1 ++ l2) :: S2).flatten = (S1.flatten ++ l1) ++ (l2 ++ S2.flatten) := by simp
  have hnew : w.heap.size ∉ b :: L :: (S1 ++ (l1 ++ l2) :: S2).flatten.map (·.2) := by
    intro hm
    have : w.heap.size ∈ own b L M (S1 ++ (l1 ++ l2) :: S2) := by
      unfold own
      simp only [List.mem_cons] at hm ⊢
      rcases hm with r | r | r
      · exact .inl r
      · exact .inr (.inl r)
      · exact .inr (.inr (.inr r))
    exact Nat.lt_irrefl _ (h.lt this)
  obtain ⟨p3, q2, cn, pb, qb, pa, qa, alp, alq, pin, qin, hR⟩ := h.ring.put (G := news F w.heap.size #[Value.int .i64 x, .int .i64 S1.length, ptr p, ptr q]) hA hB hnew (fun x y hne => news_far hne) (x := x) (by simp [news, kv]) (by simp [news]) (by simp [news]) (by simp [news])
  have hlen1 : (l1 ++ (x, w.heap.size) :: l2).length = (l1 ++ l2).length + 1 := by simp; omega
  have hlen2 : (S1 ++ (l1 ++ (x, w.heap.size) :: l2) :: S2).flatten.length = (S1 ++ (l1 ++ l2) :: S2).flatten.length + 1 := by rw [hfl, hfl2]; simp; omega
  have hle : (l1 ++ l2).length ≤ (S1 ++ (l1 ++ l2) :: S2).flatten.length := by simp; omega
  have inO : ∀ y : Pl, (y.1 = L ∨ y.1 ∈ (S1 ++ (l1 ++ l2) :: S2).flatten.map (·.2)) → y.1 ∈ own b L M (S1 ++ (l1 ++ l2) :: S2) := by
    intro y hy
    unfold own
    simp only [List.mem_cons]
    rcases hy with r | r
    · exact .inr (.inl r)
    · exact .inr (.inr (.inr r))
  have hmem : ∀ n, n ∈ (S1 ++ (l1 ++ (x, w.heap.size) :: l2) :: S2).flatten → n = (x, w.heap.size) ∨ n ∈ (S1 ++ (l1 ++ l2) :: S2).flatten := by
    intro n hn
    rw [hfl] at hn
    rw [hfl2]
    simp only [List.mem_append, List.mem_cons] at hn ⊢
    rcases hn with r | r | r
    · exact .inr (.inl r)
    · exact .inl r
    · exact .inr (.inr r)
  refine (stand_low w F b L M _ cap p.1 p.2 q.1 q.2 S1.length _ _ x _ h.holds h.ring.lines h.ring.wh h.ring.items p3 q2 cn (by simp) pb qb (Ne.symm h.ring.bL) alp alq
    (by omega) (by omega) _ h.max h.map (fun m hm e => hno (by rw [← e]; exact List.mem_map.2 ⟨m, hm, rfl⟩)) hx ⟨M_far h h.ring.lines, M_far h cn, M_far h p3, M_far h q2⟩ (own b L M (S1 ++ (l1 ++ l2) :: S2)) ⟨by simp [own], by simp [own], by simp [own], inO p pin, inO q qin⟩).mono ?_
  rintro e w' ⟨rfl, hH, hM, hK⟩
  refine ⟨rfl, ⟨_, hH, ?_, ?_, ?_, ?_, by omega, by have := h.rows; simpa using this, by have := h.cap; simpa using this⟩, hK, ?_⟩
  · rw [← hlen1, ← hlen2]
    exact hR
  · refine hM.perm ?_
    rw [hfl, hfl2]
    exact List.perm_middle.symm
  · have hk := h.keys
    rw [hfl2] at hk hno
    rw [hfl]
    refine (List.Perm.map _ (List.perm_middle (l₁ := S1.flatten ++ l1) (a := (x, w.heap.size)) (l₂ := l2 ++ S2.flatten))).nodup_iff.2 ?_
    exact List.nodup_cons.2 ⟨hno, hk⟩
  · intro n hn
    rcases hmem n hn with rfl | r
    · exact hx
    · exact h.ok n r
  · intro g hg
    unfold own at hg ⊢
    simp only [List.mem_cons] at hg ⊢
    rcases hg with r | r | r | r
    · exact .inl (.inl r)
    · exact .inl (.inr (.inl r))
    · exact .inl (.inr (.inr (.inl r)))
    · obtain ⟨n, hn, rfl⟩ := List.mem_map.1 r
      rcases hmem n hn with rfl | r
      · exact .inr (Nat.le_refl _)
      · exact .inl (.inr (.inr (.inr (List.mem_map.2 ⟨n, r, rfl⟩))))
end Go.Proofs.Ytnjpdcoahojgbaa.RInt
