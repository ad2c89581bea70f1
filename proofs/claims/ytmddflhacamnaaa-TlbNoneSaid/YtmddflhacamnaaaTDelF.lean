/- slices.DeleteFunc over package tlb's row of keys, with a closure that strikes. -/
import Derived.Test.YtmddflhacamnaaaTIdx
namespace Go.Proofs.Ytmddflhacamnaaa
open Go.ChangeShapes Go.WideShapes Go.ChangeAt Go.RowKit Go.Deep
set_option linter.unusedVariables false

def zeroKeys (n : Nat) : List Value := (Builtin.zeroCells #[.int .i64 0, .int .i64 0] n).toList
theorem zeroKeys_len (n : Nat) : (zeroKeys n).length = n * 2 := by unfold zeroKeys Builtin.zeroCells; simp
theorem zeroKeys_one (n : Nat) : ∀ u, u ∈ zeroKeys n → u.oneCell' = true := by
  intro u hu
  unfold zeroKeys Builtin.zeroCells at hu
  simp only [Array.toList_map, List.mem_map] at hu
  obtain ⟨i, _, rfl⟩ := hu
  rcases (show i % 2 = 0 ∨ i % 2 = 1 by omega) with e | e
  · show ((#[Value.int .i64 0, Value.int .i64 0] : Array Value)[i % 2]!).oneCell' = true
    rw [e]; rfl
  · show ((#[Value.int .i64 0, Value.int .i64 0] : Array Value)[i % 2]!).oneCell' = true
    rw [e]; rfl

/-- 'clear(s)'. -/
theorem run_clear_keys (w : World) (ty : TypeId) (b o n c : Nat) (hc : ∀ j, j < n * 2 → (∃ u, w.cell? ⟨b, o + j, none⟩ = some u) ∧ w.frozen? ⟨b, o + j, none⟩ = false) :
    (Builtin.clear_ #[44] ty #[.slice (some ⟨b, o, none⟩) n c]).run Try.prog w = .ok (.tuple #[]) (w.setCells b o (zeroKeys n)) := by
  have hz : ∀ w, (zeroValue 29).run Try.prog w = .ok (.agg #[.int .i64 0, .int .i64 0]) w := fun w => by kernel_rfl
  have hst := run_storeCells_cells (P := Try.prog) b o (zeroKeys n) 0 w (fun j hj => by rw [zeroKeys_len] at hj; obtain ⟨u, hu⟩ := (hc j hj).1; simp only [Nat.add_zero]; rw [hu]; rfl) (fun j hj => by rw [zeroKeys_len] at hj; simp only [Nat.add_zero]; exact (hc j hj).2) (zeroKeys_one n)
  simp only [Nat.add_zero] at hst
  cases n with
  | zero => simp [Builtin.clear_, run_underlying Try.underlying44, zeroKeys, Builtin.zeroCells, World.setCells]
  | succ m =>
    unfold zeroKeys at hst ⊢
    simp [Builtin.clear_, run_underlying Try.underlying44, hz, Value.cells, hst]

section
variable {p M : Nat} {sz : Int} {v : Value} {b2 b3 : Nat} {fv : Value} {xb : Option (Nat × Obj)} {q : KeptV → Bool} {W W' : World} {xs ys : List KeptV} {G cap : Nat}

theorem DS.row (h : DS p M sz v b2 b3 fv xb W ys) {cur : Array Value} (hb : W.heap[G]? = some (.cells cur 29 (0, 0))) : G ≠ p ∧ G ≠ M ∧ G ≠ b2 ∧ G ≠ b3 := by
  refine ⟨fun e => ?_, fun e => h.map.ne_cells hb e.symm, fun e => ?_, fun e => ?_⟩
  · have := h.block.symm.trans (e ▸ hb); simp at this
  · have := h.bp.symm.trans (e ▸ hb); simp at this
  · have := h.bf.symm.trans (e ▸ hb); simp at this
/-- The row alone has turned. -/
theorem DS.rowed (h : DS p M sz v b2 b3 fv xb W ys) {cur : Array Value} (hb : W.heap[G]? = some (.cells cur 29 (0, 0))) (hx : ∀ o, xb ≠ some (G, o)) (g : W.grownBy W' (some G)) : DS p M sz v b2 b3 fv xb W' ys := by
  obtain ⟨h1, h2, h3, h4⟩ := h.row hb
  refine h.kept fun b hc hlt => g.block b hlt fun e => ?_
  obtain rfl := Option.some.inj e
  rcases hc with e | e | e | e | ⟨o, e⟩
  · exact h1 e
  · exact h2 e
  · exact h3 e
  · exact h4 e
  · exact hx o e
theorem KRow.turnM {A : List KeptV} {j : Nat} (h : KRow W G cap A xs j) (hm : MapT W M ys) (g : Turn [M] W W') : KRow W' G cap A xs j := by
  obtain ⟨cur, hb⟩ := h.block
  exact h.kept (g.block G h.lt (by simp; exact fun e => hm.ne_cells hb e.symm))
theorem grown_set2 (W : World) (b o o2 : Nat) (v v2 : Value) : W.grownBy ((W.setCell ⟨b, o, none⟩ v).setCell ⟨b, o2, none⟩ v2) (some b) := by
  have h1 := grown_set W b o v
  have h2 := grown_set (W.setCell ⟨b, o, none⟩ v) b o2 v2
  exact ⟨rfl, rfl, rfl, Nat.le_trans h1.size h2.size, fun k hk hne => (h2.block k (Nat.lt_of_lt_of_le hk h1.size) hne).trans (h1.block k hk hne)⟩

set_option maxHeartbeats 2000000 in
theorem del_walk (HS : StepOk p M sz v b2 b3 fv xb q) (hk : Keys xs) (hr : KRow W G cap [] xs 0) (h : DS p M sz v b2 b3 fv xb W xs) (hx : ∀ o, xb ≠ some (G, o)) :
    Calls Try.prog 31 #[.slice (some ⟨G, 0, none⟩) xs.length cap, .func (.func 32) #[] #[.pointer (some ⟨b3, 0, none⟩), .pointer (some ⟨b2, 0, none⟩)]] W fun e W' =>
      e = .returned (.slice (some ⟨G, 0, none⟩) (dropK q xs).length cap) ∧ DS p M sz v b2 b3 fv xb W' (dropK q xs) ∧ KRow W' G cap (dropK q xs) xs xs.length ∧ Turn [M, G] W W' := by
  have HI := Lib.hid (idx_walk HS hk hr h)
  have HS2 := Lib.hid HS
  have HK := Lib.hid hk
  have HXG := Lib.hid hx
  have HR := Lib.hid (show ∀ W', Turn [M] W W' → KRow W' G cap [] xs 0 from fun W' g => hr.turnM h.map g)
  have hlen : xs.length < 9223372036854775808 := by obtain ⟨cur, _, _, h3, h4, _⟩ := hr; unfold maxLen at h4; omega
  have hcap : xs.length ≤ cap := by obtain ⟨cur, _, _, h3, h4, _⟩ := hr; exact h3
  clear HS hk hr h hx
  go_enter Try.func31, Try.ntmps31
  go_wp2_with fail
  refine HI.out.mono ?_
  rintro e W1 ⟨t1, ⟨rfl, h1, hall⟩ | ⟨k, x, hxk, hqx, hall, rfl, h1⟩⟩
  · have HA := Lib.hid hall
    have H1 := Lib.hid h1
    have HR1 := Lib.hid (HR.out W1 t1)
    have HT1 := Lib.hid t1
    clear hall h1 t1 HI HR
    go_wp2_with fail
    go_ret
    rw [dropK_none HA.out]
    refine ⟨rfl, H1.out, ?_, HT1.out.mono (by simp)⟩
    obtain ⟨cur, g1, g2, g3, g4, _, g6⟩ := HR1.out
    exact ⟨cur, g1, g2, g3, g4, fun t y hy => g6 t y (Nat.zero_le _) hy, fun t y ht => g6 t y (Nat.zero_le _)⟩
  · have hkl := (List.getElem?_eq_some_iff.1 hxk).1
    have hA : dropK q (xs.take (k + 1)) = xs.take k := by rw [dropK_take q hxk, dropK_none hall, hqx]; simp
    have hAl : (dropK q (xs.take (k + 1))).length = k := by rw [hA, List.length_take]; omega
    have H1 := Lib.hid h1
    have HR1 := Lib.hid (show KRow W1 G cap (dropK q (xs.take (k + 1))) xs (k + 1) by
      rw [hA]
      obtain ⟨cur, g1, g2, g3, g4, _, g6⟩ := HR.out W1 t1
      refine ⟨cur, g1, g2, g3, g4, fun t y hy => ?_, fun t y ht => g6 t y (Nat.zero_le _)⟩
      rw [List.getElem?_take] at hy
      split at hy
      · exact g6 t y (Nat.zero_le _) hy
      · cases hy)
    have HT1 := Lib.hid (show Turn [M, G] W W1 from t1.mono (by simp))
    have HAL := Lib.hid hAl
    have hkne : ((k : Int) == -1) = false := beq_eq_false_iff_ne.2 (by omega)
    clear hall h1 t1 HI HR hA hAl hxk hqx
    go_wp2_with fail
    go_loopw [5, 6, 7] (fun iv jv _ wr => ∃ i j : Nat, j ≤ xs.length ∧ i < j ∧ iv = .int .i64 i ∧ jv = .int .i64 j ∧ Hid (DS p M sz v b2 b3 fv xb wr (cont q xs j)) ∧ Hid (KRow wr G cap (dropK q (xs.take j)) xs j) ∧ Hid (Turn [M, G] W wr) ∧ Hid ((dropK q (xs.take j)).length = i)) (fun _ jv _ _ => xs.length - (intOf jv).toNat)
    case atStart => exact ⟨k, k + 1, by omega, by omega, rfl, by go_num, H1, HR1, HT1, HAL⟩
    case round =>
      obtain ⟨i, j, hj, hij, rfl, rfl, HDj, HRj, HT, HL⟩ := hrel
      by_cases hlt : j < xs.length
      · obtain ⟨x, hx⟩ : ∃ x, xs[j]? = some x := ⟨_, List.getElem?_eq_getElem hlt⟩
        obtain ⟨k0, k1⟩ := HRj.out.at (Nat.le_refl _) hx
        have hok := HK.out.ok x (List.mem_of_getElem? hx)
        have htk := dropK_take q hx
        have HX := Lib.hid hx
        clear hx
        obtain ⟨xa, xv, xf, xp⟩ := x
        simp only at *
        have ga := World.grownBy_alloc wr (.cells #[.int .i64 xa, .int .i64 xv] 29 (0, 0)) none
        have hbk := TwoB.new wr 29 (.int .i64 xa) (.int .i64 xv)
        have hcall := HS2.out _ _ ⟨xa, xv, xf, xp⟩ (HDj.out.grow ga) hok
        rw [cont_step HK.out HX.out] at hcall
        have hMlt := HDj.out.map.lt
        obtain ⟨b, hb⟩ : ∃ b, q ⟨xa, xv, xf, xp⟩ = b := ⟨_, rfl⟩
        rw [hb] at hcall htk
        have HC := Lib.hid hcall
        have HTK := Lib.hid htk
        have HRA := Lib.hid (HRj.out.kept (ga.block G HRj.out.lt (by simp)))
        have HMA := Lib.hid (HDj.out.grow ga).map
        have HBK := Lib.hid hbk
        have HGA := Lib.hid ga
        have HMN := Lib.hid (show wr.heap.size ∉ [M] by simp; omega)
        clear hcall htk hb ga hok hMlt
        obtain ⟨c0, c1⟩ := hbk.at
        clear hbk
        cases b with
        | true =>
          go_wp2_with (go_at_call 32; refine HC.out.mono ?_; rintro e W2 ⟨rfl, h2, t2⟩)
          have HR2 := Lib.hid (HRA.out.turnM HMA.out t2)
          have HT2 := Lib.hid (t2)
          have H2 := Lib.hid h2
          clear h2 t2
          go_roundw
          case rel =>
            refine ⟨i, j + 1, by omega, by omega, rfl, by go_num, H2, ?_, (HT.out.trans' (Turn.grown HGA.out)).trans' (HT2.out.mono (by simp)), ?_⟩
            · show KRow _ G cap (dropK q (xs.take (j + 1))) xs (j + 1)
              rw [HTK.out]
              simp only [if_pos, List.append_nil]
              exact HR2.out.skip
            · show (dropK q (xs.take (j + 1))).length = i
              rw [HTK.out]
              simpa using HL.out
          case measure => simp [intOf]; omega
        | false =>
          have hin : i < xs.length := by omega
          go_wp2_with (go_at_call 32; refine HC.out.mono ?_; rintro e W2 ⟨rfl, h2, t2⟩; have HR2 := Lib.hid (HRA.out.turnM HMA.out t2); have HT2 := Lib.hid t2; have H2 := Lib.hid h2; have HB2 := Lib.hid (HBK.out.turn t2 HMN.out); obtain ⟨z0, z1⟩ := HB2.out.at; obtain ⟨u0, y0⟩ := HR2.out.there (o := i * 2) (by omega); obtain ⟨u1, y1⟩ := HR2.out.there (o := i * 2 + 1) (by omega); have f0 := HR2.out.frozen (i * 2); have f1 := HR2.out.frozen (i * 2 + 1); clear h2 t2)
          go_roundw
          case rel =>
            obtain ⟨cur, hcur⟩ := HR2.out.block
            refine ⟨i + 1, j + 1, by omega, by omega, by go_num, by go_num, H2.out.rowed hcur HXG.out (grown_set2 W2 G (i * 2) (i * 2 + 1) _ _), ?_, ((HT.out.trans' (Turn.grown HGA.out)).trans' (HT2.out.mono (by simp))).trans' (Turn.one (grown_set2 W2 G (i * 2) (i * 2 + 1) _ _) (by simp)), ?_⟩
            · show KRow _ G cap (dropK q (xs.take (j + 1))) xs (j + 1)
              rw [HTK.out]
              have := HR2.out.store HX.out (by rw [HL.out]; exact hij)
              rw [HL.out] at this
              exact this
            · show (dropK q (xs.take (j + 1))).length = i + 1
              rw [HTK.out]
              simp
              exact HL.out
          case measure => simp [intOf]; omega
      · obtain rfl : j = xs.length := by omega
        have hci : ¬ cap = i := by omega
        have hwhole : xs.take xs.length = xs := List.take_of_length_le (Nat.le_refl _)
        have hcl : ∀ ty, (Builtin.clear_ #[44] ty #[.slice (some ⟨G, i * 2, none⟩) (xs.length - i) (cap - i)]).run Try.prog wr = .ok (.tuple #[]) (wr.setCells G (i * 2) (zeroKeys (xs.length - i))) :=
          fun ty => run_clear_keys wr ty G (i * 2) _ _ fun t ht => ⟨HRj.out.there (by omega), HRj.out.frozen _⟩
        go_wp2_with fail
        go_ret
        have hd := HDj.out
        have hl := HL.out
        have hrr := HRj.out.cleared (zeroKeys (xs.length - i))
        obtain ⟨cur, hcur⟩ := HRj.out.block
        rw [hl, hwhole] at hrr
        rw [cont_all q xs rfl] at hd
        rw [hwhole] at hl
        rw [hl]
        exact ⟨rfl, hd.rowed hcur HXG.out (setCells_grown G _ _ wr), hrr, HT.out.trans' (Turn.one (setCells_grown G _ _ wr) (by simp))⟩
end
end Go.Proofs.Ytmddflhacamnaaa
