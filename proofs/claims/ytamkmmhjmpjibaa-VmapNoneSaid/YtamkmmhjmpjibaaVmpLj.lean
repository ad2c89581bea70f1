/- Layer 16 (landed): Inherit, Advise, Wire, Protect. Layer 16 (landed): Protect. -/
import Derived.Test.YtamkmmhjmpjibaaVmpLh
import Derived.Test.YtamkmmhjmpjibaaEyBits
namespace Go.Proofs.Ytamkmmhjmpjibaa
open Go.ChangeShapes Go.WideShapes Go.ChangeAt Go.RowKit Go.Deep
set_option linter.unusedVariables false
set_option linter.unusedSimpArgs false

theorem ens_put1 : ∀ {G : List En} {k q : Nat} {x y : En} {u : Value}, G[k]? = some x → q < 10 → enCells y = (enCells x).set q u → (G.set k y).flatMap enCells = (G.flatMap enCells).set (k * 10 + q) u
  | [], k, q, x, y, u, h, _, _ => by simp at h
  | z :: r, 0, q, x, y, u, h, hq, he => by
    simp at h
    subst h
    rw [List.set_cons_zero, List.flatMap_cons, List.flatMap_cons, he, List.set_append_left _ _ (by rw [en_len]; omega), Nat.zero_mul, Nat.zero_add]
  | z :: r, k + 1, q, x, y, u, h, hq, he => by
    rw [List.set_cons_succ, List.flatMap_cons, List.flatMap_cons, ens_put1 (by simpa using h) hq he, List.set_append_right _ _ (by rw [en_len]; omega), en_len]
    congr 2
    omega
/-- One cell of an entry turns. -/
theorem own_cell {w : World} {base g c n k q : Nat} {G : List En} {x y : En} {u : Value} (h : EOwn w base (.slice (some ⟨g, 0, none⟩) n c) G) (hn : G.length = n) (hx : G[k]? = some x) (hq : q < 10) (he : enCells y = (enCells x).set q u) : EOwn (w.setCell ⟨g, k * 10 + q, none⟩ u) base (.slice (some ⟨g, 0, none⟩) n c) (G.set k y) := by
  subst hn
  have h1 := OwnOf.turn (ys := G.set k y) (o := k * 10 + q) (u := u) h (by simp) (ens_put1 hx hq he)
  exact h1
theorem ent_cell {w : World} {base g c n k : Nat} {G : List En} {x : En} (h : EOwn w base (.slice (some ⟨g, 0, none⟩) n c) G) (hn : G.length = n) (hx : G[k]? = some x) : EAt w g (k * 10) x := by
  subst hn
  exact own_en h hx
theorem ent_frozen {w : World} {base g c n : Nat} {G : List En} (h : EOwn w base (.slice (some ⟨g, 0, none⟩) n c) G) (hn : G.length = n) (o : Nat) : w.frozen? ⟨g, o, none⟩ = false := by
  subst hn
  exact OwnOf.frozen h o
theorem eg_inherit : ∀ args w, (callFunc 52 args).run Try.prog w = .ok (.enter 52 args) w := enters_of Try.func52 (by kernel_rfl) rfl
theorem eg_advise : ∀ args w, (callFunc 53 args).run Try.prog w = .ok (.enter 53 args) w := enters_of Try.func53 (by kernel_rfl) rfl
theorem eg_wire : ∀ args w, (callFunc 54 args).run Try.prog w = .ok (.enter 54 args) w := enters_of Try.func54 (by kernel_rfl) rfl
theorem eg_give : ∀ args w, (callFunc 55 args).run Try.prog w = .ok (.enter 55 args) w := enters_of Try.func55 (by kernel_rfl) rfl
theorem inherit1_ok {w : World} {g o b : Nat} {how : Int} (c0 : w.cell? ⟨b, 0, none⟩ = some (.int .i64 how)) {old : Value} (c1 : w.cell? ⟨g, o + 7, none⟩ = some old) (f1 : w.frozen? ⟨g, o + 7, none⟩ = false) :
    Calls Try.prog 52 #[.pointer (some ⟨g, o, none⟩), .pointer (some ⟨b, 0, none⟩)] w fun e w' => e = .returned (.int .i64 0) ∧ w' = w.setCell ⟨g, o + 7, none⟩ (.int .i64 how) := by
  go_enter Try.func52, Try.ntmps52
  go_wp2_with fail
  go_ret
  exact ⟨rfl, rfl⟩
theorem advise1_ok {w : World} {g o b : Nat} {how : Int} (c0 : w.cell? ⟨b, 0, none⟩ = some (.int .i64 how)) {old : Value} (c1 : w.cell? ⟨g, o + 8, none⟩ = some old) (f1 : w.frozen? ⟨g, o + 8, none⟩ = false) :
    Calls Try.prog 53 #[.pointer (some ⟨g, o, none⟩), .pointer (some ⟨b, 0, none⟩)] w fun e w' => e = .returned (.int .i64 0) ∧ w' = w.setCell ⟨g, o + 8, none⟩ (.int .i64 how) := by
  go_enter Try.func53, Try.ntmps53
  go_wp2_with fail
  go_ret
  exact ⟨rfl, rfl⟩
theorem wire1_ok {w : World} {g o b : Nat} {on : Bool} (c0 : w.cell? ⟨b, 0, none⟩ = some (.bool on)) {old : Value} (c1 : w.cell? ⟨g, o + 9, none⟩ = some old) (f1 : w.frozen? ⟨g, o + 9, none⟩ = false) :
    Calls Try.prog 54 #[.pointer (some ⟨g, o, none⟩), .pointer (some ⟨b, 0, none⟩)] w fun e w' => e = .returned (.int .i64 0) ∧ w' = w.setCell ⟨g, o + 9, none⟩ (.bool on) := by
  go_enter Try.func54, Try.ntmps54
  go_wp2_with fail
  go_ret
  exact ⟨rfl, rfl⟩
theorem give_ok {w : World} {g o : Nat} {p m : Int} {old : Value} (c6 : w.cell? ⟨g, o + 6, none⟩ = some (.int .i64 m)) (c5 : w.cell? ⟨g, o + 5, none⟩ = some old) (f5 : w.frozen? ⟨g, o + 5, none⟩ = false) (d : Bool) (hd : decide (bits .andNot .i64 p m = 0) = d) :
    Calls Try.prog 55 #[.int .i64 p, .pointer (some ⟨g, o, none⟩)] w fun e w' => e = .returned (.int .i64 (if d = true then 0 else 3)) ∧ w' = if d = true then w.setCell ⟨g, o + 5, none⟩ (.int .i64 p) else w := by
  obtain ⟨z, hz⟩ : ∃ z, bits .andNot .i64 p m = z := ⟨_, rfl⟩
  rw [hz] at hd
  cases d with
  | true =>
    obtain rfl := of_decide_eq_true hd
    rw [if_pos rfl, if_pos rfl]
    go_enter Try.func55, Try.ntmps55
    go_wp2_with fail
    go_ret
    exact ⟨rfl, rfl⟩
  | false =>
    have hz0 : ¬ z = 0 := of_decide_eq_false hd
    have hz1 : (z == 0) = false := by simpa using hz0
    rw [if_neg (by simp), if_neg (by simp)]
    go_enter Try.func55, Try.ntmps55
    go_wp2_with fail
    go_ret
    exact ⟨rfl, rfl⟩
theorem errL_zero {f : En → Int × En} (h : ∀ x, (f x).1 = 0) (G : List En) : errL f G = 0 := errL_none fun i y _ _ => h y
theorem other_chD (L : List En) (hL : RF 0 L) (lo n k v most : Int) (on : Bool) : chD (fun x => (0, setV k v on x)) L lo n (decide (0 ≤ v) && decide (v ≤ most)) = ((otherV L lo n k v most on).err, (otherV L lo n k v most on).l) := by
  unfold chD otherV
  by_cases h : rangeV lo n = true ∧ 0 ≤ v ∧ v ≤ most
  · obtain ⟨h1, h2, h3⟩ := h
    obtain ⟨r1, r2, r3, r4⟩ := range_iff.1 h1
    obtain ⟨m, hm⟩ := Int.eq_ofNat_of_zero_le (show 0 ≤ n by omega)
    have hA : (decide (0 ≤ v) && decide (v ≤ most) && rangeV lo n) = true := by rw [h1, decide_eq_true h2, decide_eq_true h3]; rfl
    rw [hA]
    rw [if_pos (show rangeV lo n = true ∧ 0 ≤ v ∧ v ≤ most from ⟨h1, h2, h3⟩)]
    unfold chErr
    rw [hm, whole_gone hL, errL_zero fun _ => rfl]
    cases hw : wholeB L lo (lo + m) with
    | true => rfl
    | false => rfl
  · have hA : (decide (0 ≤ v) && decide (v ≤ most) && rangeV lo n) = false := by
      cases hc : (decide (0 ≤ v) && decide (v ≤ most) && rangeV lo n) with
      | false => rfl
      | true =>
        simp only [Bool.and_eq_true, decide_eq_true_eq] at hc
        exact (h ⟨hc.2, hc.1.1, hc.1.2⟩).elim
    rw [hA, if_neg h]
    rfl
theorem rf_set {L : List En} (hL : RF 0 L) {lo n k v most : Int} {on : Bool} (h0 : 0 ≤ v) (h1 : v ≤ most) (hk : (k = 3 ∧ most ≤ 2) ∨ (k = 4 ∧ most ≤ 4) ∨ k = 5) : RF 0 ((goneE L lo (lo + n)).map fun x => setV k v on x) := by
  refine rf_map (rf_gone _ _ hL) fun x hx => ⟨?_, (set_stays k v on).s x, (set_stays k v on).e x⟩
  obtain ⟨g1, g2, g3, g4, g5, g6, g7, g8, g9, g10, g11, g12⟩ := (rf_good (rf_gone _ _ hL) x hx).1
  rcases hk with ⟨rfl, h2⟩ | ⟨rfl, h2⟩ | rfl
  · exact ⟨g1, g2, g3, g4, g5, g6, h0, by show v ≤ 2; omega, g9, g10, g11, g12⟩
  · exact ⟨g1, g2, g3, g4, g5, g6, g7, g8, h0, by show v ≤ 4; omega, g11, g12⟩
  · exact ⟨g1, g2, g3, g4, g5, g6, g7, g8, g9, g10, g11, g12⟩
set_option maxHeartbeats 4000000 in
theorem inherit_ok {w : World} {r : Nat} {v : Value} {L : List En} (h : VM w r v L) (hm : MapL L) (hl : L.length ≤ 900) (lo n : Int) (how : Int) (ho : okI lo) (hn : okI n) :
    Calls Try.prog 24 #[.pointer (some ⟨r, 0, none⟩), .int .i64 lo, .int .i64 n, .int .i64 how] w fun e w' => e = .returned (.int .i64 (otherV L lo n 3 how 2 false).err) ∧ ∃ v', VM w' r v' (otherV L lo n 3 how 2 false).l ∧ New w v v' ∧ Turn (r :: blkL v) w w' := by
  have g1 := World.grownBy_alloc w (.cells #[.int .i64 how] 3) none
  have hC := fun (may : Bool) (hmay : may = true → 0 ≤ (how : Int) ∧ (how : Int) ≤ 2) => change_ok (h.grow g1) hm hl lo n ho hn may 52 #[] #[.pointer (some ⟨w.heap.size, 0, none⟩)] eg_inherit (fun x => (0, setV 3 how false x)) (fun x => ⟨(set_stays 3 how false).s x, (set_stays 3 how false).e x⟩)
    (fun _ hmy _ => rf_set (on := false) hm.rf (hmay hmy).1 (hmay hmy).2 (.inl ⟨rfl, Int.le_refl _⟩)) (fun _ W base g q c k x G' hk hg hlen hown hx hgx => by
        have kb := hk w.heap.size (by simp)
        have c0 : W.cell? ⟨w.heap.size, 0, none⟩ = some (.int .i64 how) := by rw [World.cell?_of_block (a := ⟨w.heap.size, 0, none⟩) kb, cell_of_row _ _ _ _ _ _ (heap_alloc_new w _)]; rfl
        have hat := ent_cell hown hlen hx
        refine (inherit1_ok c0 hat.c7 (ent_frozen hown hlen _)).mono ?_
        rintro e W' ⟨rfl, rfl⟩
        exact ⟨rfl, fun _ => own_cell hown hlen hx (by omega) rfl, Turn.setCell _ W g _ _ (by simp)⟩)
  have hD := other_chD L hm.rf lo n 3 how 2 false
  have HG := Lib.hid g1
  by_cases d1 : how ≥ 0
  · have e1 : decide (how ≥ 0) = true := decide_eq_true d1
    obtain ⟨d2, hd2⟩ : ∃ d2, decide (how ≤ 2) = d2 := ⟨_, rfl⟩
    have hC := hC d2 fun h2 => ⟨d1, of_decide_eq_true (hd2.trans h2)⟩
    rw [show (decide (0 ≤ how) && decide (how ≤ 2)) = d2 by rw [hd2, decide_eq_true (show 0 ≤ how from d1)]; rfl] at hD
    rw [hD] at hC
    have HC := Lib.hid hC
    generalize (otherV L lo n 3 how 2 false).err = er at *
    generalize (otherV L lo n 3 how 2 false).l = Lf at *
    clear hC hD g1 h hm hl ho hn
    go_enter Try.func24, Try.ntmps24
    go_wp2_with fail
    refine HC.out.mono ?_
    rintro e w2 ⟨rfl, v', k1, k2, k3⟩
    have H1 := Lib.hid k1
    have H2 := Lib.hid k2
    have H3 := Lib.hid k3
    clear k1 k2 k3
    go_wp2_with fail
    go_ret
    exact ⟨rfl, _, H1.out, H2.out.after HG.out.size, (Turn.grown HG.out).trans' H3.out⟩
  · have e1 : decide (how ≥ 0) = false := decide_eq_false d1
    have hC := hC false fun h2 => Bool.noConfusion h2
    rw [show (decide (0 ≤ how) && decide (how ≤ 2)) = false by rw [decide_eq_false (show ¬ 0 ≤ how from d1)]; rfl] at hD
    rw [hD] at hC
    have HC := Lib.hid hC
    generalize (otherV L lo n 3 how 2 false).err = er at *
    generalize (otherV L lo n 3 how 2 false).l = Lf at *
    clear hC hD g1 h hm hl ho hn
    go_enter Try.func24, Try.ntmps24
    go_wp2_with fail
    refine HC.out.mono ?_
    rintro e w2 ⟨rfl, v', k1, k2, k3⟩
    have H1 := Lib.hid k1
    have H2 := Lib.hid k2
    have H3 := Lib.hid k3
    clear k1 k2 k3
    go_wp2_with fail
    go_ret
    exact ⟨rfl, _, H1.out, H2.out.after HG.out.size, (Turn.grown HG.out).trans' H3.out⟩
set_option maxHeartbeats 4000000 in
theorem advise_ok {w : World} {r : Nat} {v : Value} {L : List En} (h : VM w r v L) (hm : MapL L) (hl : L.length ≤ 900) (lo n : Int) (how : Int) (ho : okI lo) (hn : okI n) :
    Calls Try.prog 25 #[.pointer (some ⟨r, 0, none⟩), .int .i64 lo, .int .i64 n, .int .i64 how] w fun e w' => e = .returned (.int .i64 (otherV L lo n 4 how 4 false).err) ∧ ∃ v', VM w' r v' (otherV L lo n 4 how 4 false).l ∧ New w v v' ∧ Turn (r :: blkL v) w w' := by
  have g1 := World.grownBy_alloc w (.cells #[.int .i64 how] 3) none
  have hC := fun (may : Bool) (hmay : may = true → 0 ≤ (how : Int) ∧ (how : Int) ≤ 4) => change_ok (h.grow g1) hm hl lo n ho hn may 53 #[] #[.pointer (some ⟨w.heap.size, 0, none⟩)] eg_advise (fun x => (0, setV 4 how false x)) (fun x => ⟨(set_stays 4 how false).s x, (set_stays 4 how false).e x⟩)
    (fun _ hmy _ => rf_set (on := false) hm.rf (hmay hmy).1 (hmay hmy).2 (.inr (.inl ⟨rfl, Int.le_refl _⟩))) (fun _ W base g q c k x G' hk hg hlen hown hx hgx => by
        have kb := hk w.heap.size (by simp)
        have c0 : W.cell? ⟨w.heap.size, 0, none⟩ = some (.int .i64 how) := by rw [World.cell?_of_block (a := ⟨w.heap.size, 0, none⟩) kb, cell_of_row _ _ _ _ _ _ (heap_alloc_new w _)]; rfl
        have hat := ent_cell hown hlen hx
        refine (advise1_ok c0 hat.c8 (ent_frozen hown hlen _)).mono ?_
        rintro e W' ⟨rfl, rfl⟩
        exact ⟨rfl, fun _ => own_cell hown hlen hx (by omega) rfl, Turn.setCell _ W g _ _ (by simp)⟩)
  have hD := other_chD L hm.rf lo n 4 how 4 false
  have HG := Lib.hid g1
  by_cases d1 : how ≥ 0
  · have e1 : decide (how ≥ 0) = true := decide_eq_true d1
    obtain ⟨d2, hd2⟩ : ∃ d2, decide (how ≤ 4) = d2 := ⟨_, rfl⟩
    have hC := hC d2 fun h2 => ⟨d1, of_decide_eq_true (hd2.trans h2)⟩
    rw [show (decide (0 ≤ how) && decide (how ≤ 4)) = d2 by rw [hd2, decide_eq_true (show 0 ≤ how from d1)]; rfl] at hD
    rw [hD] at hC
    have HC := Lib.hid hC
    generalize (otherV L lo n 4 how 4 false).err = er at *
    generalize (otherV L lo n 4 how 4 false).l = Lf at *
    clear hC hD g1 h hm hl ho hn
    go_enter Try.func25, Try.ntmps25
    go_wp2_with fail
    refine HC.out.mono ?_
    rintro e w2 ⟨rfl, v', k1, k2, k3⟩
    have H1 := Lib.hid k1
    have H2 := Lib.hid k2
    have H3 := Lib.hid k3
    clear k1 k2 k3
    go_wp2_with fail
    go_ret
    exact ⟨rfl, _, H1.out, H2.out.after HG.out.size, (Turn.grown HG.out).trans' H3.out⟩
  · have e1 : decide (how ≥ 0) = false := decide_eq_false d1
    have hC := hC false fun h2 => Bool.noConfusion h2
    rw [show (decide (0 ≤ how) && decide (how ≤ 4)) = false by rw [decide_eq_false (show ¬ 0 ≤ how from d1)]; rfl] at hD
    rw [hD] at hC
    have HC := Lib.hid hC
    generalize (otherV L lo n 4 how 4 false).err = er at *
    generalize (otherV L lo n 4 how 4 false).l = Lf at *
    clear hC hD g1 h hm hl ho hn
    go_enter Try.func25, Try.ntmps25
    go_wp2_with fail
    refine HC.out.mono ?_
    rintro e w2 ⟨rfl, v', k1, k2, k3⟩
    have H1 := Lib.hid k1
    have H2 := Lib.hid k2
    have H3 := Lib.hid k3
    clear k1 k2 k3
    go_wp2_with fail
    go_ret
    exact ⟨rfl, _, H1.out, H2.out.after HG.out.size, (Turn.grown HG.out).trans' H3.out⟩
set_option maxHeartbeats 4000000 in
theorem wire_ok {w : World} {r : Nat} {v : Value} {L : List En} (h : VM w r v L) (hm : MapL L) (hl : L.length ≤ 900) (lo n : Int) (on : Bool) (ho : okI lo) (hn : okI n) :
    Calls Try.prog 26 #[.pointer (some ⟨r, 0, none⟩), .int .i64 lo, .int .i64 n, .bool on] w fun e w' => e = .returned (.int .i64 (otherV L lo n 5 0 1 on).err) ∧ ∃ v', VM w' r v' (otherV L lo n 5 0 1 on).l ∧ New w v v' ∧ Turn (r :: blkL v) w w' := by
  have g1 := World.grownBy_alloc w (.cells #[.bool on] 4) none
  have hC := fun (may : Bool) (hmay : may = true → 0 ≤ (0 : Int) ∧ (0 : Int) ≤ 1) => change_ok (h.grow g1) hm hl lo n ho hn may 54 #[] #[.pointer (some ⟨w.heap.size, 0, none⟩)] eg_wire (fun x => (0, setV 5 0 on x)) (fun x => ⟨(set_stays 5 0 on).s x, (set_stays 5 0 on).e x⟩)
    (fun _ hmy _ => rf_set (on := on) hm.rf (hmay hmy).1 (hmay hmy).2 (.inr (.inr rfl))) (fun _ W base g q c k x G' hk hg hlen hown hx hgx => by
        have kb := hk w.heap.size (by simp)
        have c0 : W.cell? ⟨w.heap.size, 0, none⟩ = some (.bool on) := by rw [World.cell?_of_block (a := ⟨w.heap.size, 0, none⟩) kb, cell_of_row _ _ _ _ _ _ (heap_alloc_new w _)]; rfl
        have hat := ent_cell hown hlen hx
        refine (wire1_ok c0 hat.c9 (ent_frozen hown hlen _)).mono ?_
        rintro e W' ⟨rfl, rfl⟩
        exact ⟨rfl, fun _ => own_cell hown hlen hx (by omega) rfl, Turn.setCell _ W g _ _ (by simp)⟩)
  have hD := other_chD L hm.rf lo n 5 0 1 on
  have HG := Lib.hid g1
  have hC := hC true fun _ => ⟨Int.le_refl _, by decide⟩
  rw [show (decide ((0 : Int) ≤ 0) && decide ((0 : Int) ≤ 1)) = true from rfl] at hD
  rw [hD] at hC
  have HC := Lib.hid hC
  generalize (otherV L lo n 5 0 1 on).err = er at *
  generalize (otherV L lo n 5 0 1 on).l = Lf at *
  clear hC hD g1 h hm hl ho hn
  go_enter Try.func26, Try.ntmps26
  go_wp2_with fail
  refine HC.out.mono ?_
  rintro e w2 ⟨rfl, v', k1, k2, k3⟩
  have H1 := Lib.hid k1
  have H2 := Lib.hid k2
  have H3 := Lib.hid k3
  clear k1 k2 k3
  go_wp2_with fail
  go_ret
  exact ⟨rfl, _, H1.out, H2.out.after HG.out.size, (Turn.grown HG.out).trans' H3.out⟩
end Go.Proofs.Ytamkmmhjmpjibaa

namespace Go.Proofs.Ytamkmmhjmpjibaa
open Go.ChangeShapes Go.WideShapes Go.ChangeAt Go.RowKit Go.Deep
set_option linter.unusedVariables false
set_option linter.unusedSimpArgs false

def giveF (p : Int) (x : En) : Int × En := (if decide (bits .andNot .i64 p x.m = 0) = true then 0 else 3, setV 2 p false x)
theorem give_fit {p : Int} {x : En} (h0 : 0 ≤ p) (h7 : p ≤ 7) (hx : GoodE x) : decide (bits .andNot .i64 p x.m = 0) = fitOne p x := by
  obtain ⟨q1, q2, q3⟩ := fits_iff.1 hx.pm
  unfold fitOne
  rw [decide_eq_decide, notM (p := p) ⟨by omega, by omega⟩ q2.1 q2.2]
  exact ⟨fun h => h.2, fun h => ⟨⟨h0, h7⟩, h⟩⟩
theorem errL_give {p : Int} (h0 : 0 ≤ p) (h7 : p ≤ 7) : ∀ {G : List En}, (∀ x, x ∈ G → GoodE x) → errL (giveF p) G = if G.all (fitOne p) = true then 0 else 3
  | [], _ => rfl
  | x :: r, h => by
    have hx := give_fit h0 h7 (h x (by simp))
    have ih := errL_give h0 h7 fun y hy => h y (List.mem_cons_of_mem _ hy)
    show (if (giveF p x).1 = 0 then errL (giveF p) r else (giveF p x).1) = _
    unfold giveF at ih ⊢
    rw [List.all_cons]
    simp only [hx]
    cases hf : fitOne p x with
    | true =>
      simp only [if_true, Bool.true_and]
      exact ih
    | false => simp
theorem prot_chD (L : List En) (hL : RF 0 L) (lo n p : Int) : chD (giveF p) L lo n (decide (0 ≤ p ∧ p ≤ 7)) = ((protV L lo n p).err, (protV L lo n p).l) := by
  unfold chD protV
  by_cases h : rangeV lo n = true ∧ 0 ≤ p ∧ p ≤ 7
  · obtain ⟨h1, h2, h3⟩ := h
    obtain ⟨r1, r2, r3, r4⟩ := range_iff.1 h1
    obtain ⟨m, hm⟩ := Int.eq_ofNat_of_zero_le (show 0 ≤ n by omega)
    have hA : (decide (0 ≤ p ∧ p ≤ 7) && rangeV lo n) = true := by rw [h1, decide_eq_true (show 0 ≤ p ∧ p ≤ 7 from ⟨h2, h3⟩)]; rfl
    rw [hA]
    rw [if_pos (show rangeV lo n = true ∧ 0 ≤ p ∧ p ≤ 7 from ⟨h1, h2, h3⟩)]
    unfold chErr
    rw [mayP_gone hL (show lo < lo + n by omega), hm, whole_gone hL, errL_give h2 h3 fun x hx => (rf_good (rf_gone _ _ hL) x hx).1]
    cases hw : wholeB L lo (lo + m) with
    | true =>
      cases ha : (goneE L lo (lo + m)).all (fitOne p) with
      | true => rfl
      | false => rfl
    | false => rfl
  · have hA : (decide (0 ≤ p ∧ p ≤ 7) && rangeV lo n) = false := by
      cases hc : (decide (0 ≤ p ∧ p ≤ 7) && rangeV lo n) with
      | false => rfl
      | true =>
        simp only [Bool.and_eq_true, decide_eq_true_eq] at hc
        exact (h ⟨hc.2, hc.1.1, hc.1.2⟩).elim
    rw [hA, if_neg h]
    rfl
theorem rf_give {L : List En} (hL : RF 0 L) {lo hi p : Int} (h0 : 0 ≤ p) (h7 : p ≤ 7) (he : chErr (giveF p) (goneE L lo hi) lo hi = 0) : RF 0 ((goneE L lo hi).map fun x => (giveF p x).2) := by
  have hG := rf_gone lo hi hL
  unfold chErr at he
  split at he
  · rw [errL_give h0 h7 fun x hx => (rf_good hG x hx).1] at he
    split at he
    · rename_i hall
      refine rf_map hG fun x hx => ⟨?_, rfl, rfl⟩
      have hgx := (rf_good hG x hx).1
      have h1 := List.all_eq_true.1 hall x hx
      have h3 := fits_set hgx h0 h7 (of_decide_eq_true h1)
      obtain ⟨g1, g2, g3, g4, g5, g6, g7, g8, g9, g10, g11, g12⟩ := hgx
      exact ⟨g1, g2, g3, g4, g5, h3, g7, g8, g9, g10, g11, g12⟩
    · cases he
  · cases he
set_option maxHeartbeats 4000000 in
theorem protect_ok {w : World} {r : Nat} {v : Value} {L : List En} (h : VM w r v L) (hm : MapL L) (hl : L.length ≤ 900) (lo n p : Int) (ho : okI lo) (hn : okI n) (hp : okI p) :
    Calls Try.prog 27 #[.pointer (some ⟨r, 0, none⟩), .int .i64 lo, .int .i64 n, .int .i64 p] w fun e w' => e = .returned (.int .i64 (protV L lo n p).err) ∧ ∃ v', VM w' r v' (protV L lo n p).l ∧ New w v v' ∧ Turn (r :: blkL v) w w' := by
  obtain ⟨d, hd⟩ : ∃ d, decide (0 ≤ p ∧ p ≤ 7) = d := ⟨_, rfl⟩
  have hC := change_ok h hm hl lo n ho hn d 55 #[.int .i64 p] #[] eg_give (giveF p) (fun x => ⟨rfl, rfl⟩)
    (fun _ hmy he => by
      have h07 := of_decide_eq_true (hd.trans hmy)
      exact rf_give hm.rf h07.1 h07.2 he)
    (fun _ W base g q c k x G' hk hg hlen hown hx hgx => by
      have hat := ent_cell hown hlen hx
      refine (give_ok hat.c6 hat.c5 (ent_frozen hown hlen _) _ rfl).mono ?_
      rintro e W' ⟨rfl, rfl⟩
      refine ⟨rfl, fun h0 => ?_, ?_⟩
      · unfold giveF at h0 ⊢
        simp only at h0 ⊢
        split at h0
        · rename_i hdd
          rw [if_pos hdd]
          exact own_cell hown hlen hx (by omega) rfl
        · cases h0
      · split
        · exact Turn.setCell _ W g _ _ (by simp)
        · exact Turn.refl _ _)
  have hD := prot_chD L hm.rf lo n p
  rw [hd] at hD
  rw [hD] at hC
  have HC := Lib.hid hC
  generalize (protV L lo n p).err = er at *
  generalize (protV L lo n p).l = Lf at *
  have h7 := not7 hp
  obtain ⟨z, hz⟩ : ∃ z, bits .andNot .i64 p 7 = z := ⟨_, rfl⟩
  rw [hz] at h7
  have hzd : (z == 0) = d := by
    rw [← hd]
    cases e : (z == 0) with
    | true => exact (decide_eq_true (h7.1 (by simpa using e))).symm
    | false => exact (decide_eq_false fun q => by have := h7.2 q; rw [this] at e; simp at e).symm
  clear hC hD h hm hl ho hn hp h7 hd
  go_enter Try.func27, Try.ntmps27
  go_wp2_with fail
  refine HC.out.mono ?_
  rintro e w2 ⟨rfl, v', k1, k2, k3⟩
  have H1 := Lib.hid k1
  have H2 := Lib.hid k2
  have H3 := Lib.hid k3
  clear k1 k2 k3
  go_wp2_with fail
  go_ret
  exact ⟨rfl, _, H1.out, H2.out, H3.out⟩
end Go.Proofs.Ytamkmmhjmpjibaa
