/- Layer 16 (landed): what change does to the entries of a range, over whatever is set. Layer 16 (landed): change. Layer 16 (landed): Inherit, Advise, Wire, Protect. Layer 16 (landed): Protect. Layer 16 (landed): Fork. -/
import Derived.Test.YtefiiooibbkffaaGreatVmpLe
import Derived.Test.YtefiiooibbkffaaGreatEyBits
namespace Go.Proofs.YtefiiooibbkffaaGreat
open Go.ChangeShapes Go.WideShapes Go.ChangeAt Go.RowKit Go.Deep
set_option linter.unusedVariables false
set_option linter.unusedSimpArgs false

/-- The first error of a list. -/
def errL (f : En → Int × En) : List En → Int
  | [] => 0
  | x :: r => if (f x).1 = 0 then errL f r else (f x).1
theorem errL_take {f : En → Int × En} : ∀ {G : List En} {q : Nat} {x : En}, (∀ i y, i < q → G[i]? = some y → (f y).1 = 0) → G[q]? = some x → (f x).1 ≠ 0 → errL f G = (f x).1
  | [], q, x, _, hx, _ => by simp at hx
  | y :: r, 0, x, _, hx, h0 => by
    simp at hx
    subst hx
    unfold errL
    rw [if_neg h0]
  | y :: r, q + 1, x, h, hx, h0 => by
    unfold errL
    rw [if_pos (h 0 y (by omega) rfl)]
    exact errL_take (fun i z hi hz => h (i + 1) z (Nat.succ_lt_succ hi) (by simpa using hz)) (by simpa using hx) h0
theorem errL_none {f : En → Int × En} : ∀ {G : List En}, (∀ i y, i < G.length → G[i]? = some y → (f y).1 = 0) → errL f G = 0
  | [], _ => rfl
  | y :: r, h => by
    unfold errL
    rw [if_pos (h 0 y (by simp) rfl)]
    exact errL_none fun i z hi hz => h (i + 1) z (Nat.succ_lt_succ hi) (by simpa using hz)
def chErr (f : En → Int × En) (G : List En) (lo hi : Int) : Int := if wholeB G lo hi = true then errL f G else 5
/-- As far as a change has come. -/
def soFar (f : En → Int × En) (G : List En) (q : Nat) : List En := (G.take q).map (fun x => (f x).2) ++ G.drop q
theorem soFar_len (f : En → Int × En) (G : List En) (q : Nat) : (soFar f G q).length = G.length := by
  unfold soFar
  rw [List.length_append, List.length_map, List.length_take, List.length_drop]
  omega
theorem soFar_at {f : En → Int × En} {G : List En} {q : Nat} {x : En} (hx : G[q]? = some x) : (soFar f G q)[q]? = some x := by
  have hq := (List.getElem?_eq_some_iff.1 hx).1
  unfold soFar
  rw [List.getElem?_append_right (by rw [List.length_map, List.length_take]; omega), List.length_map, List.length_take, List.getElem?_drop, ← hx]
  congr 1
  omega
theorem soFar_next {f : En → Int × En} {G : List En} {q : Nat} {x : En} (hx : G[q]? = some x) : (soFar f G q).set q (f x).2 = soFar f G (q + 1) := by
  have hq := (List.getElem?_eq_some_iff.1 hx).1
  unfold soFar
  have hl : ((G.take q).map (fun x => (f x).2)).length = q := by rw [List.length_map, List.length_take]; omega
  rw [List.set_append_right _ _ (by omega), hl, Nat.sub_self, get_eq hx, List.set_cons_zero, takel_at hx, List.map_append, List.append_assoc]
  rfl
theorem soFar_all (f : En → Int × En) (G : List En) : soFar f G G.length = G.map (fun x => (f x).2) := by
  unfold soFar
  rw [List.take_length, List.drop_length, List.append_nil]
set_option maxRecDepth 100000 in
set_option maxHeartbeats 4000000 in
theorem change1_ok {w : World} {b0 b1 b2 base c : Nat} {a : Option Addr} {lo hi : Int} {G : List En} (gs : Nat) (rcs caps : Array Value) (egs : ∀ args w, (callFunc gs args).run Tryz.prog w = .ok (.enter gs args) w)
    (q0 : w.cell? ⟨b0, 0, none⟩ = some (.int .i64 lo)) (q2 : w.cell? ⟨b2, 0, none⟩ = some (.int .i64 hi)) (q1 : w.cell? ⟨b1, 0, none⟩ = some (.func (.func gs) rcs caps)) (hown : EOwn w base (.slice a G.length c) G) (hb0 : b0 < base) (hb1 : b1 < base) (hb2 : b2 < base) (hr : RF 0 G) (hl : G.length ≤ 1000) (f : En → Int × En)
    (HS : ∀ W g k x G', Turn [g] w W → base ≤ g → G'.length = G.length → x ∈ G → EOwn W base (.slice (some ⟨g, 0, none⟩) G.length c) G' → G'[k]? = some x → Calls Tryz.prog gs (rcs.push (.pointer (some ⟨g, k * 10, none⟩)) ++ caps) W fun e W' => e = .returned (.int .i64 (f x).1) ∧ ((f x).1 = 0 → EOwn W' base (.slice (some ⟨g, 0, none⟩) G.length c) (G'.set k (f x).2)) ∧ Turn [g] W W') :
    Calls Tryz.prog 158 #[.slice a G.length c, .pointer (some ⟨b0, 0, none⟩), .pointer (some ⟨b2, 0, none⟩), .pointer (some ⟨b1, 0, none⟩)] w fun e w' => ∃ u2, e = .returned (.tuple #[u2, .int .i64 (chErr f G lo hi)]) ∧ (chErr f G lo hi = 0 → EC w' u2 (G.map fun x => (f x).2)) ∧ Turn (blkL (.slice a G.length c)) w w' := by
  obtain ⟨d, hd⟩ : ∃ d, wholeB G lo hi = d := ⟨_, rfl⟩
  have HW := Lib.hid (whole_ok (EOwn.ec hown) hr (by omega) lo hi d hd)
  cases d with
  | false =>
    have e : chErr f G lo hi = 5 := by unfold chErr; rw [hd]; rfl
    rw [e]
    clear e hd HS hown hr hl
    go_enter Tryz.func158, Tryz.ntmps158
    go_wp2_with fail
    refine HW.out.mono ?_
    rintro e w2 ⟨rfl, g2⟩
    have HG2 := Lib.hid g2
    clear g2
    go_wp2_with fail
    go_ret2
    exact ⟨_, rfl, fun h => by first | cases h | omega, Turn.grown HG2.out⟩
  | true =>
    have e : chErr f G lo hi = errL f G := by unfold chErr; rw [hd]; rfl
    rw [e]
    have HO := Lib.hid hown
    have HHS := Lib.hid HS
    have hq1g := fun W (g : w.grownBy W none) => g.cell q1 (by simp)
    obtain ⟨n, hn⟩ : ∃ n, G.length = n := ⟨_, rfl⟩
    rw [hn] at HW HO HHS hl ⊢
    have HNn := Lib.hid hn
    clear e hd HS hown hr hn hq1g
    go_enter Tryz.func158, Tryz.ntmps158
    go_wp2_with fail
    refine HW.out.mono ?_
    rintro e w2 ⟨rfl, g2⟩
    have HI := Lib.hid (show EOwn w2 base (.slice a n c) (soFar f G 0) from OwnOf.grow HO.out g2)
    have HT0 := Lib.hid (show Turn (blkL (.slice a n c)) w w2 from Turn.grown g2)
    clear g2
    go_wp2_with fail
    go_loopw [16] (fun iv wr => ∃ q : Nat, q ≤ n ∧ iv = .int .i64 q ∧ Hid (EOwn wr base (.slice a n c) (soFar f G q)) ∧ Hid (Turn (blkL (.slice a n c)) w wr) ∧ Hid (∀ i y, i < q → G[i]? = some y → (f y).1 = 0)) (fun iv _ => n - (intOf iv).toNat)
    case atStart => exact ⟨0, by omega, rfl, HI, HT0, fun i y hi _ => by omega⟩
    case round =>
      clear HI HT0
      obtain ⟨q, hq, rfl, HJ, HT, HE⟩ := hrel
      by_cases hlt : q < n
      · obtain ⟨x, hx⟩ : ∃ x, G[q]? = some x := ⟨_, List.getElem?_eq_getElem (by rw [HNn.out]; exact hlt)⟩
        obtain ⟨g, c3, hv⟩ := OwnOf.there HJ.out (by rw [soFar_len, HNn.out]; omega)
        injection hv with e1 e2 e3
        subst e1
        clear e2 e3
        have hbg : base ≤ g := (OwnOf.lt HJ.out rfl).1
        have hTd : Turn [g] w wr.drew := HT.out.trans' (Turn.grown (grown_drew1 wr))
        have hblk := fun (b : Nat) (hb : b < base) (hw : b < w.heap.size) => hTd.block b hw (by simp; omega)
        have hw1 : b1 < w.heap.size := by
          rcases Nat.lt_or_ge b1 w.heap.size with h' | h'
          · exact h'
          · simp [World.cell?, Array.getElem?_eq_none h'] at q1
        have q1r : wr.cell? ⟨b1, 0, none⟩ = some (.func (.func gs) rcs caps) := by
          have hk := hblk b1 hb1 hw1
          have e := World.cell?_of_block (w := w) (w' := wr.drew) (a := ⟨b1, 0, none⟩) hk
          exact e.trans q1
        have HSx := Lib.hid (HHS.out wr.drew g q x (soFar f G q) hTd hbg (by rw [soFar_len]; exact HNn.out) (List.mem_of_getElem? hx) (OwnOf.grow HJ.out (grown_drew1 wr)) (soFar_at hx))
        obtain ⟨er, her⟩ : ∃ er, (f x).1 = er := ⟨_, rfl⟩
        rw [her] at HSx
        have HTd := Lib.hid hTd
        have q1d : wr.drew.cell? ⟨b1, 0, none⟩ = some (.func (.func gs) rcs caps) := q1r
        have hk5 : ∀ W', Turn [g] wr.drew W' → W'.cell? ⟨b1, 0, none⟩ = some (.func (.func gs) rcs caps) := fun W' t => by
          have hk := t.block b1 (by have := hTd.size; omega) (by simp; omega)
          exact (World.cell?_of_block (w := wr.drew) (w' := W') (a := ⟨b1, 0, none⟩) hk).trans q1d
        have HK5 := Lib.hid hk5
        clear hk5
        by_cases h0 : er = 0
        · subst h0
          have HEn := Lib.hid (show ∀ i y, i < q + 1 → G[i]? = some y → (f y).1 = 0 from fun i y hi hy => by
            by_cases hi2 : i = q
            · subst hi2
              rw [hx] at hy
              cases hy
              exact her
            · exact HE.out i y (by omega) hy)
          have HNx := Lib.hid (soFar_next (f := f) hx)
          clear hx her hblk hw1 hTd HHS HW HE
          go_upto_region 6 with fail
          go_region_held3 (fun w7 => w7.cell? ⟨b1, 0, none⟩ = some (.func (.func gs) rcs caps)) (first | exact q1r | exact q1d | exact k5 | fail)
            (first
              | (go_at_fn gs; with_reducible refine HSx.out.mono ?_; rintro e w5 ⟨rfl, k1, k2⟩; have k5 := HK5.out w5 k2; have H5 := Lib.hid k1; have T5 := Lib.hid k2; clear k1 k2)
              | fail)
          go_wp2_with fail
          go_roundw
          case rel => exact ⟨q + 1, by omega, by go_num, by rw [← HNx.out]; exact H5.out (by first | trivial | rfl), HTd.out.trans' T5.out, HEn⟩
          case measure => simp [intOf]; omega
        · have h0b : (er == 0) = false := by simpa using h0
          have HEr := Lib.hid (show errL f G = er from (errL_take HE.out hx (by rw [her]; exact h0)).trans her)
          clear hx her hblk hw1 hTd HHS HW HE
          go_upto_region 6 with fail
          go_region_held3 (fun w7 => w7.cell? ⟨b1, 0, none⟩ = some (.func (.func gs) rcs caps)) (first | exact q1r | exact q1d | exact k5 | fail)
            (first
              | (go_at_fn gs; with_reducible refine HSx.out.mono ?_; rintro e w5 ⟨rfl, k1, k2⟩; have k5 := HK5.out w5 k2; have H5 := Lib.hid k1; have T5 := Lib.hid k2; clear k1 k2)
              | fail)
          go_wp2_with fail
          go_ret2
          refine ⟨_, by rw [HEr.out]; rfl, fun h => absurd (HEr.out.symm.trans h) h0, HTd.out.trans' T5.out⟩
      · obtain rfl : q = n := by omega
        have HEr := Lib.hid (show errL f G = 0 from errL_none fun i y hi hy => HE.out i y (by rw [HNn.out] at hi; exact hi) hy)
        have HF := Lib.hid (show EC wr (.slice a q c) (G.map fun x => (f x).2) by
          have h1 := EOwn.ec HJ.out
          rw [show soFar f G q = G.map (fun x => (f x).2) by rw [← HNn.out]; exact soFar_all f G] at h1
          exact h1)
        clear HHS HW HE
        go_wp2_with fail
        go_ret2
        refine ⟨_, by rw [HEr.out]; rfl, fun _ => HF.out, HT.out⟩
end Go.Proofs.YtefiiooibbkffaaGreat

namespace Go.Proofs.YtefiiooibbkffaaGreat
open Go.ChangeShapes Go.WideShapes Go.ChangeAt Go.RowKit Go.Deep
set_option linter.unusedVariables false
set_option linter.unusedSimpArgs false

/-- What a change comes to: its error, and the list. -/
def chD (f : En → Int × En) (L : List En) (lo n : Int) (may : Bool) : Int × List En :=
  if (may && rangeV lo n) = true then (chErr f (goneE L lo (lo + n)) lo (lo + n), if chErr f (goneE L lo (lo + n)) lo (lo + n) = 0 then mergeE (chgE (fun x => (f x).2) L lo (lo + n)) else L) else (2, L)
theorem eg_change : ∀ args w, (callFunc 158 args).run Tryz.prog w = .ok (.enter 158 args) w := enters_of Tryz.func158 (by kernel_rfl) rfl
set_option maxRecDepth 100000 in
set_option maxHeartbeats 4000000 in
theorem change_ok {w : World} {r : Nat} {v : Value} {L : List En} (h : VM w r v L) (hm : MapL L) (hl : L.length ≤ 900) (lo n : Int) (ho : okI lo) (hn : okI n) (may : Bool) (gs : Nat) (rcs caps : Array Value) (egs : ∀ args w, (callFunc gs args).run Tryz.prog w = .ok (.enter gs args) w)
    (f : En → Int × En) (hse : ∀ x, (f x).2.s = x.s ∧ (f x).2.e = x.e) (hrf : rangeV lo n = true → may = true → chErr f (goneE L lo (lo + n)) lo (lo + n) = 0 → RF 0 ((goneE L lo (lo + n)).map fun x => (f x).2))
    (HS : (may && rangeV lo n) = true → ∀ (W : World) (base g q c k : Nat) (x : En) (G' : List En), (∀ b, b < w.heap.size → W.heap[b]? = w.heap[b]?) → w.heap.size ≤ g → G'.length = q → EOwn W base (.slice (some ⟨g, 0, none⟩) q c) G' → G'[k]? = some x → GoodE x → Calls Tryz.prog gs (rcs.push (.pointer (some ⟨g, k * 10, none⟩)) ++ caps) W fun e W' => e = .returned (.int .i64 (f x).1) ∧ ((f x).1 = 0 → EOwn W' base (.slice (some ⟨g, 0, none⟩) q c) (G'.set k (f x).2)) ∧ Turn [g] W W') :
    Calls Tryz.prog 120 #[.pointer (some ⟨r, 0, none⟩), .int .i64 lo, .int .i64 n, .bool may, .func (.func gs) rcs caps] w fun e w' => e = .returned (.int .i64 (chD f L lo n may).1) ∧ ∃ v', VM w' r v' (chD f L lo n may).2 ∧ New w v v' ∧ Turn (r :: blkL v) w w' := by
  obtain ⟨w1, hw1⟩ : ∃ w1, (w.alloc (.cells #[.int .i64 lo] 3)).alloc (.cells #[.func (.func gs) rcs caps] 172) = w1 := ⟨_, rfl⟩
  have g1 : w.grownBy w1 none := by rw [← hw1]; exact grown_trans (World.grownBy_alloc _ _ _) (World.grownBy_alloc _ _ _)
  have hs1 : w1.heap.size = w.heap.size + 2 := by rw [← hw1]; simp
  have hb0 : w1.heap[w.heap.size]? = some (.cells #[.int .i64 lo] 3 (0, 0)) := by rw [← hw1, heap_alloc_old _ _ (by simp)]; exact heap_alloc_new w _
  have hb1 : w1.heap[w.heap.size + 1]? = some (.cells #[.func (.func gs) rcs caps] 172 (0, 0)) := by rw [← hw1]; exact heap_second w _ _
  have HA := Lib.hid (asked_ok (h.grow g1) lo n ho hn may)
  have c0 : w1.cell? ⟨w.heap.size, 0, none⟩ = some (.int .i64 lo) := by rw [cell_of_row _ _ _ _ _ _ hb0]; rfl
  cases k : (may && rangeV lo n) with
  | false =>
    have e : chD f L lo n may = (2, L) := by unfold chD; rw [k]; rfl
    rw [e]
    rw [k] at HA
    have HV := Lib.hid (h.grow g1)
    have HG := Lib.hid g1
    have HW1 := Lib.hid hw1
    clear e k h hm hl ho hn HS hrf hb0 hb1 g1
    go_enter Tryz.func120, Tryz.ntmps120
    go_wp2_with fail
    refine HA.out.mono ?_
    rintro e w2 ⟨rfl, e1⟩
    subst e1
    go_wp2_with fail
    go_ret
    exact ⟨rfl, _, HV.out, New.refl _ _, Turn.grown HG.out⟩
  | true =>
    have k' := k
    have hmay : may = true := by cases may with | true => rfl | false => cases k
    have hrg : rangeV lo n = true := by rw [hmay] at k; exact k
    obtain ⟨r1, r2, r3, r4⟩ := range_iff.1 hrg
    have e : chD f L lo n may = (chErr f (goneE L lo (lo + n)) lo (lo + n), if chErr f (goneE L lo (lo + n)) lo (lo + n) = 0 then mergeE (chgE (fun x => (f x).2) L lo (lo + n)) else L) := by unfold chD; rw [k]; rfl
    rw [e]
    rw [k] at HA
    obtain ⟨w2, hw2⟩ : ∃ w2, w1.alloc (.cells #[.int .i64 (lo + n)] 3) = w2 := ⟨_, rfl⟩
    have g2 : w1.grownBy w2 none := by rw [← hw2]; exact World.grownBy_alloc _ _ _
    have hb2 : w2.heap[w.heap.size + 2]? = some (.cells #[.int .i64 (lo + n)] 3 (0, 0)) := by rw [← hw2, ← hs1]; exact heap_alloc_new w1 _
    have hs2 : w2.heap.size = w.heap.size + 3 := by rw [← hw2]; simp; omega
    have g12 := grown_trans g1 g2
    obtain ⟨G, hG⟩ : ∃ G, goneE L lo (lo + n) = G := ⟨_, rfl⟩
    rw [hG] at hrf ⊢
    have hGr : RF 0 G := by rw [← hG]; exact rf_gone _ _ hm.rf
    have hGl : G.length ≤ 1000 := by rw [← hG]; have := gone_len' lo (lo + n) hm.rf; omega
    have hGin : ∀ x, x ∈ G.map (fun x => (f x).2) → lo ≤ x.s ∧ x.e ≤ lo + n := fun y hy => by
      obtain ⟨x, hx, rfl⟩ := List.mem_map.1 hy
      rw [(hse x).1, (hse x).2]
      rw [← hG] at hx
      exact of_decide_eq_true (List.mem_filter.1 hx).2
    obtain ⟨er, her⟩ : ∃ er, chErr f G lo (lo + n) = er := ⟨_, rfl⟩
    rw [her] at hrf ⊢
    have hPl : placeL L lo (lo + n) (G.map fun x => (f x).2) = mergeE (chgE (fun x => (f x).2) L lo (lo + n)) := by rw [← hG]; exact place_chg hm (by omega) hse
    have hA := apply_ok (h.grow g12) hm hl lo (lo + n) r1 (by omega) (by omega) 158 #[] #[.pointer (some ⟨w.heap.size, 0, none⟩), .pointer (some ⟨w.heap.size + 2, 0, none⟩), .pointer (some ⟨w.heap.size + 1, 0, none⟩)] eg_change [] (fun b hb => by cases hb) (G.map fun x => (f x).2) (by rw [List.length_map]; exact hGl) er (fun _ => True) (fun _ _ _ _ _ => trivial)
      (fun w3 u c hg hu => by
        rw [hG] at hu ⊢
        have k0 := (hg.block w.heap.size (by omega) (by simp)).trans ((g2.block w.heap.size (by omega) (by simp)).trans hb0)
        have k1 := (hg.block (w.heap.size + 1) (by omega) (by simp)).trans ((g2.block (w.heap.size + 1) (by omega) (by simp)).trans hb1)
        have k2 := (hg.block (w.heap.size + 2) (by omega) (by simp)).trans hb2
        refine (change1_ok gs rcs caps egs (f := f) (lo := lo) (hi := lo + n) (b0 := w.heap.size) (b1 := w.heap.size + 1) (b2 := w.heap.size + 2) (by rw [cell_of_row _ _ _ _ _ _ k0]; rfl) (by rw [cell_of_row _ _ _ _ _ _ k2]; rfl) (by rw [cell_of_row _ _ _ _ _ _ k1]; rfl) hu (by omega) (by omega) (by omega) hGr hGl ?_).mono ?_
        · intro W g k x G' ht hbg hlG hxG hown hx
          have hgx : GoodE x := (rf_good hGr x hxG).1
          exact HS k' W w2.heap.size g G.length c k x G' (fun b hb => by
            have q := ht.block b (by have := hg.size; omega) (by simp; omega)
            exact q.trans ((hg.block b (by omega) (by simp)).trans (g12.block b hb (by simp)))) (by omega) hlG hown hx hgx
        · rintro e w4 ⟨u2, rfl, q1, q2⟩
          rw [her] at q1 ⊢
          exact ⟨u2, rfl, fun h0 => ⟨q1 h0, place_rf hm (by omega) (hrf hrg hmay h0) hGin⟩, q2.mono fun b hb => List.mem_append.2 (.inr hb), trivial⟩)
    rw [← hPl]
    obtain ⟨Lf, hLf⟩ : ∃ Lf, (if er = 0 then placeL L lo (lo + n) (G.map fun x => (f x).2) else L) = Lf := ⟨_, rfl⟩
    rw [hLf] at hA ⊢
    have HAp := Lib.hid hA
    have HG12 := Lib.hid g12
    have HW1 := Lib.hid hw1
    have HW2 := Lib.hid hw2
    have hhi : IntKind.i64.wrap (lo + n) = lo + n := by rw [IntKind.wrap_i64]; omega
    have d0 : w2.cell? ⟨w.heap.size, 0, none⟩ = some (.int .i64 lo) := g2.cell c0 (by simp)
    have d2 : w2.cell? ⟨w.heap.size + 2, 0, none⟩ = some (.int .i64 (lo + n)) := by rw [cell_of_row _ _ _ _ _ _ hb2]; rfl
    clear hA hPl hLf g12 g1 g2 e k h hm hl ho hn HS hrf hb0 hb1 hb2 hG hGr hGl hGin her hse hmay hrg hs2
    go_enter Tryz.func120, Tryz.ntmps120
    go_wp2_with fail
    refine HA.out.mono ?_
    rintro e w3 ⟨rfl, e1⟩
    subst e1
    go_wp2_with fail
    refine HAp.out.mono ?_
    rintro e w4 ⟨rfl, v', k1, k2, k3, -⟩
    have H1 := Lib.hid k1
    have H2 := Lib.hid k2
    have H3 := Lib.hid k3
    clear k1 k2 k3
    go_wp2_with fail
    go_ret
    exact ⟨rfl, v', H1.out, H2.out.after HG12.out.size, (Turn.grown HG12.out).trans' (H3.out.mono fun b hb => by simpa using hb)⟩
end Go.Proofs.YtefiiooibbkffaaGreat

namespace Go.Proofs.YtefiiooibbkffaaGreat
open Go.ChangeShapes Go.WideShapes Go.ChangeAt Go.RowKit Go.Deep
set_option linter.unusedVariables false
set_option linter.unusedSimpArgs false

theorem ens_put1 : ∀ {G : List En} {k q : Nat} {x y : En} {u : Value}, G[k]? = some x → q < 10 → enCells y = (enCells x).set q u → (G.set k y).flatMap enCells = (G.flatMap enCells).set (k * 10 + q) u
  | [], k, q, x, y, u, h, _, _ => by simp at h
  | z :: r, 0, q, x, y, u, h, hq, he => by
    simp at h
    subst h
    rw [List.set_cons_zero, List.flatMap_cons, List.flatMap_cons, he, List.set_append_left _ _ (by rw [en_len]; omega), Nat.zero_mul, Nat.zero_add]
  | z :: r, k + 1, q, x, y, u, h, hq, he => by
    rw [List.set_cons_succ, List.flatMap_cons, List.flatMap_cons, ens_put1 (by simpa using h) hq he, List.set_append_right _ _ (by rw [en_len]; omega), en_len]
    congr 2
    omega
/-- One cell of an entry turns. -/
theorem own_cell {w : World} {base g c n k q : Nat} {G : List En} {x y : En} {u : Value} (h : EOwn w base (.slice (some ⟨g, 0, none⟩) n c) G) (hn : G.length = n) (hx : G[k]? = some x) (hq : q < 10) (he : enCells y = (enCells x).set q u) : EOwn (w.setCell ⟨g, k * 10 + q, none⟩ u) base (.slice (some ⟨g, 0, none⟩) n c) (G.set k y) := by
  subst hn
  have h1 := OwnOf.turn (ys := G.set k y) (o := k * 10 + q) (u := u) h (by simp) (ens_put1 hx hq he)
  exact h1
theorem ent_cell {w : World} {base g c n k : Nat} {G : List En} {x : En} (h : EOwn w base (.slice (some ⟨g, 0, none⟩) n c) G) (hn : G.length = n) (hx : G[k]? = some x) : EAt w g (k * 10) x := by
  subst hn
  exact own_en h hx
theorem ent_frozen {w : World} {base g c n : Nat} {G : List En} (h : EOwn w base (.slice (some ⟨g, 0, none⟩) n c) G) (hn : G.length = n) (o : Nat) : w.frozen? ⟨g, o, none⟩ = false := by
  subst hn
  exact OwnOf.frozen h o
theorem eg_inherit : ∀ args w, (callFunc 122 args).run Tryz.prog w = .ok (.enter 122 args) w := enters_of Tryz.func122 (by kernel_rfl) rfl
theorem eg_advise : ∀ args w, (callFunc 160 args).run Tryz.prog w = .ok (.enter 160 args) w := enters_of Tryz.func160 (by kernel_rfl) rfl
theorem eg_wire : ∀ args w, (callFunc 124 args).run Tryz.prog w = .ok (.enter 124 args) w := enters_of Tryz.func124 (by kernel_rfl) rfl
theorem eg_give : ∀ args w, (callFunc 121 args).run Tryz.prog w = .ok (.enter 121 args) w := enters_of Tryz.func121 (by kernel_rfl) rfl
theorem inherit1_ok {w : World} {g o b : Nat} {how : Int} (c0 : w.cell? ⟨b, 0, none⟩ = some (.int .i64 how)) {old : Value} (c1 : w.cell? ⟨g, o + 7, none⟩ = some old) (f1 : w.frozen? ⟨g, o + 7, none⟩ = false) :
    Calls Tryz.prog 122 #[.pointer (some ⟨g, o, none⟩), .pointer (some ⟨b, 0, none⟩)] w fun e w' => e = .returned (.int .i64 0) ∧ w' = w.setCell ⟨g, o + 7, none⟩ (.int .i64 how) := by
  go_enter Tryz.func122, Tryz.ntmps122
  go_wp2_with fail
  go_ret
  exact ⟨rfl, rfl⟩
theorem advise1_ok {w : World} {g o b : Nat} {how : Int} (c0 : w.cell? ⟨b, 0, none⟩ = some (.int .i64 how)) {old : Value} (c1 : w.cell? ⟨g, o + 8, none⟩ = some old) (f1 : w.frozen? ⟨g, o + 8, none⟩ = false) :
    Calls Tryz.prog 160 #[.pointer (some ⟨g, o, none⟩), .pointer (some ⟨b, 0, none⟩)] w fun e w' => e = .returned (.int .i64 0) ∧ w' = w.setCell ⟨g, o + 8, none⟩ (.int .i64 how) := by
  go_enter Tryz.func160, Tryz.ntmps160
  go_wp2_with fail
  go_ret
  exact ⟨rfl, rfl⟩
theorem wire1_ok {w : World} {g o b : Nat} {on : Bool} (c0 : w.cell? ⟨b, 0, none⟩ = some (.bool on)) {old : Value} (c1 : w.cell? ⟨g, o + 9, none⟩ = some old) (f1 : w.frozen? ⟨g, o + 9, none⟩ = false) :
    Calls Tryz.prog 124 #[.pointer (some ⟨g, o, none⟩), .pointer (some ⟨b, 0, none⟩)] w fun e w' => e = .returned (.int .i64 0) ∧ w' = w.setCell ⟨g, o + 9, none⟩ (.bool on) := by
  go_enter Tryz.func124, Tryz.ntmps124
  go_wp2_with fail
  go_ret
  exact ⟨rfl, rfl⟩
theorem give_ok {w : World} {g o : Nat} {p m : Int} {old : Value} (c6 : w.cell? ⟨g, o + 6, none⟩ = some (.int .i64 m)) (c5 : w.cell? ⟨g, o + 5, none⟩ = some old) (f5 : w.frozen? ⟨g, o + 5, none⟩ = false) (d : Bool) (hd : decide (bits .andNot .i64 p m = 0) = d) :
    Calls Tryz.prog 121 #[.int .i64 p, .pointer (some ⟨g, o, none⟩)] w fun e w' => e = .returned (.int .i64 (if d = true then 0 else 3)) ∧ w' = if d = true then w.setCell ⟨g, o + 5, none⟩ (.int .i64 p) else w := by
  obtain ⟨z, hz⟩ : ∃ z, bits .andNot .i64 p m = z := ⟨_, rfl⟩
  rw [hz] at hd
  cases d with
  | true =>
    obtain rfl := of_decide_eq_true hd
    rw [if_pos rfl, if_pos rfl]
    go_enter Tryz.func121, Tryz.ntmps121
    go_wp2_with fail
    go_ret
    exact ⟨rfl, rfl⟩
  | false =>
    have hz0 : ¬ z = 0 := of_decide_eq_false hd
    have hz1 : (z == 0) = false := by simpa using hz0
    rw [if_neg (by simp), if_neg (by simp)]
    go_enter Tryz.func121, Tryz.ntmps121
    go_wp2_with fail
    go_ret
    exact ⟨rfl, rfl⟩
theorem errL_zero {f : En → Int × En} (h : ∀ x, (f x).1 = 0) (G : List En) : errL f G = 0 := errL_none fun i y _ _ => h y
theorem other_chD (L : List En) (hL : RF 0 L) (lo n k v most : Int) (on : Bool) : chD (fun x => (0, setV k v on x)) L lo n (decide (0 ≤ v) && decide (v ≤ most)) = ((otherV L lo n k v most on).err, (otherV L lo n k v most on).l) := by
  unfold chD otherV
  by_cases h : rangeV lo n = true ∧ 0 ≤ v ∧ v ≤ most
  · obtain ⟨h1, h2, h3⟩ := h
    obtain ⟨r1, r2, r3, r4⟩ := range_iff.1 h1
    obtain ⟨m, hm⟩ := Int.eq_ofNat_of_zero_le (show 0 ≤ n by omega)
    have hA : (decide (0 ≤ v) && decide (v ≤ most) && rangeV lo n) = true := by rw [h1, decide_eq_true h2, decide_eq_true h3]; rfl
    rw [hA]
    rw [if_pos (show rangeV lo n = true ∧ 0 ≤ v ∧ v ≤ most from ⟨h1, h2, h3⟩)]
    unfold chErr
    rw [hm, whole_gone hL, errL_zero fun _ => rfl]
    cases hw : wholeB L lo (lo + m) with
    | true => rfl
    | false => rfl
  · have hA : (decide (0 ≤ v) && decide (v ≤ most) && rangeV lo n) = false := by
      cases hc : (decide (0 ≤ v) && decide (v ≤ most) && rangeV lo n) with
      | false => rfl
      | true =>
        simp only [Bool.and_eq_true, decide_eq_true_eq] at hc
        exact (h ⟨hc.2, hc.1.1, hc.1.2⟩).elim
    rw [hA, if_neg h]
    rfl
theorem rf_set {L : List En} (hL : RF 0 L) {lo n k v most : Int} {on : Bool} (h0 : 0 ≤ v) (h1 : v ≤ most) (hk : (k = 3 ∧ most ≤ 2) ∨ (k = 4 ∧ most ≤ 4) ∨ k = 5) : RF 0 ((goneE L lo (lo + n)).map fun x => setV k v on x) := by
  refine rf_map (rf_gone _ _ hL) fun x hx => ⟨?_, (set_stays k v on).s x, (set_stays k v on).e x⟩
  obtain ⟨g1, g2, g3, g4, g5, g6, g7, g8, g9, g10, g11, g12⟩ := (rf_good (rf_gone _ _ hL) x hx).1
  rcases hk with ⟨rfl, h2⟩ | ⟨rfl, h2⟩ | rfl
  · exact ⟨g1, g2, g3, g4, g5, g6, h0, by show v ≤ 2; omega, g9, g10, g11, g12⟩
  · exact ⟨g1, g2, g3, g4, g5, g6, g7, g8, h0, by show v ≤ 4; omega, g11, g12⟩
  · exact ⟨g1, g2, g3, g4, g5, g6, g7, g8, g9, g10, g11, g12⟩
set_option maxHeartbeats 4000000 in
theorem inherit_ok {w : World} {r : Nat} {v : Value} {L : List En} (h : VM w r v L) (hm : MapL L) (hl : L.length ≤ 900) (lo n : Int) (how : Int) (ho : okI lo) (hn : okI n) :
    Calls Tryz.prog 69 #[.pointer (some ⟨r, 0, none⟩), .int .i64 lo, .int .i64 n, .int .i64 how] w fun e w' => e = .returned (.int .i64 (otherV L lo n 3 how 2 false).err) ∧ ∃ v', VM w' r v' (otherV L lo n 3 how 2 false).l ∧ New w v v' ∧ Turn (r :: blkL v) w w' := by
  have g1 := World.grownBy_alloc w (.cells #[.int .i64 how] 3) none
  have hC := fun (may : Bool) (hmay : may = true → 0 ≤ (how : Int) ∧ (how : Int) ≤ 2) => change_ok (h.grow g1) hm hl lo n ho hn may 122 #[] #[.pointer (some ⟨w.heap.size, 0, none⟩)] eg_inherit (fun x => (0, setV 3 how false x)) (fun x => ⟨(set_stays 3 how false).s x, (set_stays 3 how false).e x⟩)
    (fun _ hmy _ => rf_set (on := false) hm.rf (hmay hmy).1 (hmay hmy).2 (.inl ⟨rfl, Int.le_refl _⟩)) (fun _ W base g q c k x G' hk hg hlen hown hx hgx => by
        have kb := hk w.heap.size (by simp)
        have c0 : W.cell? ⟨w.heap.size, 0, none⟩ = some (.int .i64 how) := by rw [World.cell?_of_block (a := ⟨w.heap.size, 0, none⟩) kb, cell_of_row _ _ _ _ _ _ (heap_alloc_new w _)]; rfl
        have hat := ent_cell hown hlen hx
        refine (inherit1_ok c0 hat.c7 (ent_frozen hown hlen _)).mono ?_
        rintro e W' ⟨rfl, rfl⟩
        exact ⟨rfl, fun _ => own_cell hown hlen hx (by omega) rfl, Turn.setCell _ W g _ _ (by simp)⟩)
  have hD := other_chD L hm.rf lo n 3 how 2 false
  have HG := Lib.hid g1
  by_cases d1 : how ≥ 0
  · have e1 : decide (how ≥ 0) = true := decide_eq_true d1
    obtain ⟨d2, hd2⟩ : ∃ d2, decide (how ≤ 2) = d2 := ⟨_, rfl⟩
    have hC := hC d2 fun h2 => ⟨d1, of_decide_eq_true (hd2.trans h2)⟩
    rw [show (decide (0 ≤ how) && decide (how ≤ 2)) = d2 by rw [hd2, decide_eq_true (show 0 ≤ how from d1)]; rfl] at hD
    rw [hD] at hC
    have HC := Lib.hid hC
    generalize (otherV L lo n 3 how 2 false).err = er at *
    generalize (otherV L lo n 3 how 2 false).l = Lf at *
    clear hC hD g1 h hm hl ho hn
    go_enter Tryz.func69, Tryz.ntmps69
    go_wp2_with fail
    refine HC.out.mono ?_
    rintro e w2 ⟨rfl, v', k1, k2, k3⟩
    have H1 := Lib.hid k1
    have H2 := Lib.hid k2
    have H3 := Lib.hid k3
    clear k1 k2 k3
    go_wp2_with fail
    go_ret
    exact ⟨rfl, _, H1.out, H2.out.after HG.out.size, (Turn.grown HG.out).trans' H3.out⟩
  · have e1 : decide (how ≥ 0) = false := decide_eq_false d1
    have hC := hC false fun h2 => Bool.noConfusion h2
    rw [show (decide (0 ≤ how) && decide (how ≤ 2)) = false by rw [decide_eq_false (show ¬ 0 ≤ how from d1)]; rfl] at hD
    rw [hD] at hC
    have HC := Lib.hid hC
    generalize (otherV L lo n 3 how 2 false).err = er at *
    generalize (otherV L lo n 3 how 2 false).l = Lf at *
    clear hC hD g1 h hm hl ho hn
    go_enter Tryz.func69, Tryz.ntmps69
    go_wp2_with fail
    refine HC.out.mono ?_
    rintro e w2 ⟨rfl, v', k1, k2, k3⟩
    have H1 := Lib.hid k1
    have H2 := Lib.hid k2
    have H3 := Lib.hid k3
    clear k1 k2 k3
    go_wp2_with fail
    go_ret
    exact ⟨rfl, _, H1.out, H2.out.after HG.out.size, (Turn.grown HG.out).trans' H3.out⟩
set_option maxHeartbeats 4000000 in
theorem advise_ok {w : World} {r : Nat} {v : Value} {L : List En} (h : VM w r v L) (hm : MapL L) (hl : L.length ≤ 900) (lo n : Int) (how : Int) (ho : okI lo) (hn : okI n) :
    Calls Tryz.prog 123 #[.pointer (some ⟨r, 0, none⟩), .int .i64 lo, .int .i64 n, .int .i64 how] w fun e w' => e = .returned (.int .i64 (otherV L lo n 4 how 4 false).err) ∧ ∃ v', VM w' r v' (otherV L lo n 4 how 4 false).l ∧ New w v v' ∧ Turn (r :: blkL v) w w' := by
  have g1 := World.grownBy_alloc w (.cells #[.int .i64 how] 3) none
  have hC := fun (may : Bool) (hmay : may = true → 0 ≤ (how : Int) ∧ (how : Int) ≤ 4) => change_ok (h.grow g1) hm hl lo n ho hn may 160 #[] #[.pointer (some ⟨w.heap.size, 0, none⟩)] eg_advise (fun x => (0, setV 4 how false x)) (fun x => ⟨(set_stays 4 how false).s x, (set_stays 4 how false).e x⟩)
    (fun _ hmy _ => rf_set (on := false) hm.rf (hmay hmy).1 (hmay hmy).2 (.inr (.inl ⟨rfl, Int.le_refl _⟩))) (fun _ W base g q c k x G' hk hg hlen hown hx hgx => by
        have kb := hk w.heap.size (by simp)
        have c0 : W.cell? ⟨w.heap.size, 0, none⟩ = some (.int .i64 how) := by rw [World.cell?_of_block (a := ⟨w.heap.size, 0, none⟩) kb, cell_of_row _ _ _ _ _ _ (heap_alloc_new w _)]; rfl
        have hat := ent_cell hown hlen hx
        refine (advise1_ok c0 hat.c8 (ent_frozen hown hlen _)).mono ?_
        rintro e W' ⟨rfl, rfl⟩
        exact ⟨rfl, fun _ => own_cell hown hlen hx (by omega) rfl, Turn.setCell _ W g _ _ (by simp)⟩)
  have hD := other_chD L hm.rf lo n 4 how 4 false
  have HG := Lib.hid g1
  by_cases d1 : how ≥ 0
  · have e1 : decide (how ≥ 0) = true := decide_eq_true d1
    obtain ⟨d2, hd2⟩ : ∃ d2, decide (how ≤ 4) = d2 := ⟨_, rfl⟩
    have hC := hC d2 fun h2 => ⟨d1, of_decide_eq_true (hd2.trans h2)⟩
    rw [show (decide (0 ≤ how) && decide (how ≤ 4)) = d2 by rw [hd2, decide_eq_true (show 0 ≤ how from d1)]; rfl] at hD
    rw [hD] at hC
    have HC := Lib.hid hC
    generalize (otherV L lo n 4 how 4 false).err = er at *
    generalize (otherV L lo n 4 how 4 false).l = Lf at *
    clear hC hD g1 h hm hl ho hn
    go_enter Tryz.func123, Tryz.ntmps123
    go_wp2_with fail
    refine HC.out.mono ?_
    rintro e w2 ⟨rfl, v', k1, k2, k3⟩
    have H1 := Lib.hid k1
    have H2 := Lib.hid k2
    have H3 := Lib.hid k3
    clear k1 k2 k3
    go_wp2_with fail
    go_ret
    exact ⟨rfl, _, H1.out, H2.out.after HG.out.size, (Turn.grown HG.out).trans' H3.out⟩
  · have e1 : decide (how ≥ 0) = false := decide_eq_false d1
    have hC := hC false fun h2 => Bool.noConfusion h2
    rw [show (decide (0 ≤ how) && decide (how ≤ 4)) = false by rw [decide_eq_false (show ¬ 0 ≤ how from d1)]; rfl] at hD
    rw [hD] at hC
    have HC := Lib.hid hC
    generalize (otherV L lo n 4 how 4 false).err = er at *
    generalize (otherV L lo n 4 how 4 false).l = Lf at *
    clear hC hD g1 h hm hl ho hn
    go_enter Tryz.func123, Tryz.ntmps123
    go_wp2_with fail
    refine HC.out.mono ?_
    rintro e w2 ⟨rfl, v', k1, k2, k3⟩
    have H1 := Lib.hid k1
    have H2 := Lib.hid k2
    have H3 := Lib.hid k3
    clear k1 k2 k3
    go_wp2_with fail
    go_ret
    exact ⟨rfl, _, H1.out, H2.out.after HG.out.size, (Turn.grown HG.out).trans' H3.out⟩
set_option maxHeartbeats 4000000 in
theorem wire_ok {w : World} {r : Nat} {v : Value} {L : List En} (h : VM w r v L) (hm : MapL L) (hl : L.length ≤ 900) (lo n : Int) (on : Bool) (ho : okI lo) (hn : okI n) :
    Calls Tryz.prog 71 #[.pointer (some ⟨r, 0, none⟩), .int .i64 lo, .int .i64 n, .bool on] w fun e w' => e = .returned (.int .i64 (otherV L lo n 5 0 1 on).err) ∧ ∃ v', VM w' r v' (otherV L lo n 5 0 1 on).l ∧ New w v v' ∧ Turn (r :: blkL v) w w' := by
  have g1 := World.grownBy_alloc w (.cells #[.bool on] 4) none
  have hC := fun (may : Bool) (hmay : may = true → 0 ≤ (0 : Int) ∧ (0 : Int) ≤ 1) => change_ok (h.grow g1) hm hl lo n ho hn may 124 #[] #[.pointer (some ⟨w.heap.size, 0, none⟩)] eg_wire (fun x => (0, setV 5 0 on x)) (fun x => ⟨(set_stays 5 0 on).s x, (set_stays 5 0 on).e x⟩)
    (fun _ hmy _ => rf_set (on := on) hm.rf (hmay hmy).1 (hmay hmy).2 (.inr (.inr rfl))) (fun _ W base g q c k x G' hk hg hlen hown hx hgx => by
        have kb := hk w.heap.size (by simp)
        have c0 : W.cell? ⟨w.heap.size, 0, none⟩ = some (.bool on) := by rw [World.cell?_of_block (a := ⟨w.heap.size, 0, none⟩) kb, cell_of_row _ _ _ _ _ _ (heap_alloc_new w _)]; rfl
        have hat := ent_cell hown hlen hx
        refine (wire1_ok c0 hat.c9 (ent_frozen hown hlen _)).mono ?_
        rintro e W' ⟨rfl, rfl⟩
        exact ⟨rfl, fun _ => own_cell hown hlen hx (by omega) rfl, Turn.setCell _ W g _ _ (by simp)⟩)
  have hD := other_chD L hm.rf lo n 5 0 1 on
  have HG := Lib.hid g1
  have hC := hC true fun _ => ⟨Int.le_refl _, by decide⟩
  rw [show (decide ((0 : Int) ≤ 0) && decide ((0 : Int) ≤ 1)) = true from rfl] at hD
  rw [hD] at hC
  have HC := Lib.hid hC
  generalize (otherV L lo n 5 0 1 on).err = er at *
  generalize (otherV L lo n 5 0 1 on).l = Lf at *
  clear hC hD g1 h hm hl ho hn
  go_enter Tryz.func71, Tryz.ntmps71
  go_wp2_with fail
  refine HC.out.mono ?_
  rintro e w2 ⟨rfl, v', k1, k2, k3⟩
  have H1 := Lib.hid k1
  have H2 := Lib.hid k2
  have H3 := Lib.hid k3
  clear k1 k2 k3
  go_wp2_with fail
  go_ret
  exact ⟨rfl, _, H1.out, H2.out.after HG.out.size, (Turn.grown HG.out).trans' H3.out⟩
end Go.Proofs.YtefiiooibbkffaaGreat

namespace Go.Proofs.YtefiiooibbkffaaGreat
open Go.ChangeShapes Go.WideShapes Go.ChangeAt Go.RowKit Go.Deep
set_option linter.unusedVariables false
set_option linter.unusedSimpArgs false

def giveF (p : Int) (x : En) : Int × En := (if decide (bits .andNot .i64 p x.m = 0) = true then 0 else 3, setV 2 p false x)
theorem give_fit {p : Int} {x : En} (h0 : 0 ≤ p) (h7 : p ≤ 7) (hx : GoodE x) : decide (bits .andNot .i64 p x.m = 0) = fitOne p x := by
  obtain ⟨q1, q2, q3⟩ := fits_iff.1 hx.pm
  unfold fitOne
  rw [decide_eq_decide, notM (p := p) ⟨by omega, by omega⟩ q2.1 q2.2]
  exact ⟨fun h => h.2, fun h => ⟨⟨h0, h7⟩, h⟩⟩
theorem errL_give {p : Int} (h0 : 0 ≤ p) (h7 : p ≤ 7) : ∀ {G : List En}, (∀ x, x ∈ G → GoodE x) → errL (giveF p) G = if G.all (fitOne p) = true then 0 else 3
  | [], _ => rfl
  | x :: r, h => by
    have hx := give_fit h0 h7 (h x (by simp))
    have ih := errL_give h0 h7 fun y hy => h y (List.mem_cons_of_mem _ hy)
    show (if (giveF p x).1 = 0 then errL (giveF p) r else (giveF p x).1) = _
    unfold giveF at ih ⊢
    rw [List.all_cons]
    simp only [hx]
    cases hf : fitOne p x with
    | true =>
      simp only [if_true, Bool.true_and]
      exact ih
    | false => simp
theorem prot_chD (L : List En) (hL : RF 0 L) (lo n p : Int) : chD (giveF p) L lo n (decide (0 ≤ p ∧ p ≤ 7)) = ((protV L lo n p).err, (protV L lo n p).l) := by
  unfold chD protV
  by_cases h : rangeV lo n = true ∧ 0 ≤ p ∧ p ≤ 7
  · obtain ⟨h1, h2, h3⟩ := h
    obtain ⟨r1, r2, r3, r4⟩ := range_iff.1 h1
    obtain ⟨m, hm⟩ := Int.eq_ofNat_of_zero_le (show 0 ≤ n by omega)
    have hA : (decide (0 ≤ p ∧ p ≤ 7) && rangeV lo n) = true := by rw [h1, decide_eq_true (show 0 ≤ p ∧ p ≤ 7 from ⟨h2, h3⟩)]; rfl
    rw [hA]
    rw [if_pos (show rangeV lo n = true ∧ 0 ≤ p ∧ p ≤ 7 from ⟨h1, h2, h3⟩)]
    unfold chErr
    rw [mayP_gone hL (show lo < lo + n by omega), hm, whole_gone hL, errL_give h2 h3 fun x hx => (rf_good (rf_gone _ _ hL) x hx).1]
    cases hw : wholeB L lo (lo + m) with
    | true =>
      cases ha : (goneE L lo (lo + m)).all (fitOne p) with
      | true => rfl
      | false => rfl
    | false => rfl
  · have hA : (decide (0 ≤ p ∧ p ≤ 7) && rangeV lo n) = false := by
      cases hc : (decide (0 ≤ p ∧ p ≤ 7) && rangeV lo n) with
      | false => rfl
      | true =>
        simp only [Bool.and_eq_true, decide_eq_true_eq] at hc
        exact (h ⟨hc.2, hc.1.1, hc.1.2⟩).elim
    rw [hA, if_neg h]
    rfl
theorem rf_give {L : List En} (hL : RF 0 L) {lo hi p : Int} (h0 : 0 ≤ p) (h7 : p ≤ 7) (he : chErr (giveF p) (goneE L lo hi) lo hi = 0) : RF 0 ((goneE L lo hi).map fun x => (giveF p x).2) := by
  have hG := rf_gone lo hi hL
  unfold chErr at he
  split at he
  · rw [errL_give h0 h7 fun x hx => (rf_good hG x hx).1] at he
    split at he
    · rename_i hall
      refine rf_map hG fun x hx => ⟨?_, rfl, rfl⟩
      have hgx := (rf_good hG x hx).1
      have h1 := List.all_eq_true.1 hall x hx
      have h3 := fits_set hgx h0 h7 (of_decide_eq_true h1)
      obtain ⟨g1, g2, g3, g4, g5, g6, g7, g8, g9, g10, g11, g12⟩ := hgx
      exact ⟨g1, g2, g3, g4, g5, h3, g7, g8, g9, g10, g11, g12⟩
    · cases he
  · cases he
set_option maxHeartbeats 4000000 in
theorem protect_ok {w : World} {r : Nat} {v : Value} {L : List En} (h : VM w r v L) (hm : MapL L) (hl : L.length ≤ 900) (lo n p : Int) (ho : okI lo) (hn : okI n) (hp : okI p) :
    Calls Tryz.prog 68 #[.pointer (some ⟨r, 0, none⟩), .int .i64 lo, .int .i64 n, .int .i64 p] w fun e w' => e = .returned (.int .i64 (protV L lo n p).err) ∧ ∃ v', VM w' r v' (protV L lo n p).l ∧ New w v v' ∧ Turn (r :: blkL v) w w' := by
  obtain ⟨d, hd⟩ : ∃ d, decide (0 ≤ p ∧ p ≤ 7) = d := ⟨_, rfl⟩
  have hC := change_ok h hm hl lo n ho hn d 121 #[.int .i64 p] #[] eg_give (giveF p) (fun x => ⟨rfl, rfl⟩)
    (fun _ hmy he => by
      have h07 := of_decide_eq_true (hd.trans hmy)
      exact rf_give hm.rf h07.1 h07.2 he)
    (fun _ W base g q c k x G' hk hg hlen hown hx hgx => by
      have hat := ent_cell hown hlen hx
      refine (give_ok hat.c6 hat.c5 (ent_frozen hown hlen _) _ rfl).mono ?_
      rintro e W' ⟨rfl, rfl⟩
      refine ⟨rfl, fun h0 => ?_, ?_⟩
      · unfold giveF at h0 ⊢
        simp only at h0 ⊢
        split at h0
        · rename_i hdd
          rw [if_pos hdd]
          exact own_cell hown hlen hx (by omega) rfl
        · cases h0
      · split
        · exact Turn.setCell _ W g _ _ (by simp)
        · exact Turn.refl _ _)
  have hD := prot_chD L hm.rf lo n p
  rw [hd] at hD
  rw [hD] at hC
  have HC := Lib.hid hC
  generalize (protV L lo n p).err = er at *
  generalize (protV L lo n p).l = Lf at *
  have h7 := not7 hp
  obtain ⟨z, hz⟩ : ∃ z, bits .andNot .i64 p 7 = z := ⟨_, rfl⟩
  rw [hz] at h7
  have hzd : (z == 0) = d := by
    rw [← hd]
    cases e : (z == 0) with
    | true => exact (decide_eq_true (h7.1 (by simpa using e))).symm
    | false => exact (decide_eq_false fun q => by have := h7.2 q; rw [this] at e; simp at e).symm
  clear hC hD h hm hl ho hn hp h7 hd
  go_enter Tryz.func68, Tryz.ntmps68
  go_wp2_with fail
  refine HC.out.mono ?_
  rintro e w2 ⟨rfl, v', k1, k2, k3⟩
  have H1 := Lib.hid k1
  have H2 := Lib.hid k2
  have H3 := Lib.hid k3
  clear k1 k2 k3
  go_wp2_with fail
  go_ret
  exact ⟨rfl, _, H1.out, H2.out, H3.out⟩
end Go.Proofs.YtefiiooibbkffaaGreat

namespace Go.Proofs.YtefiiooibbkffaaGreat
open Go.ChangeShapes Go.WideShapes Go.ChangeAt Go.RowKit Go.Deep
set_option linter.unusedVariables false
set_option linter.unusedSimpArgs false

theorem child_take {L : List En} {q : Nat} {x : En} (hx : L[q]? = some x) : childL (L.take (q + 1)) = childL (L.take q) ++ (if x.i ≠ 2 then [unwire x] else []) := by
  unfold childL
  rw [takel_at hx, List.filter_append, List.map_append]
  by_cases h : x.i ≠ 2
  · rw [if_pos h]
    have e : List.filter (fun x => decide (x.i ≠ 2)) [x] = [x] := by simp [h]
    rw [e]
    rfl
  · rw [if_neg h]
    have e : List.filter (fun x => decide (x.i ≠ 2)) [x] = [] := by simpa using h
    rw [e]
    rfl
theorem step_app_run {P : Program} {w : World} {ops : Array Oper} {o : Oper} {a : Act} {K : Act → World → Prop} {Q : Exit → Act → World → Prop} {E : Prop} (hgd : o.guard = none) (s x : Operand) (t tn : TypeId)
    (ho : o.op = .call { callee := .builtin .append, args := #[s, x], argTypes := #[t, tn] }) (vs vx : Value) (hs : a.eval s = vs) (hx : a.eval x = vx)
    (v' : Value) (w' : World) (hr : (Builtin.append_ #[t, tn] o.type #[vs, vx]).run P w = .ok v' w') (h : K (a.put o.dst v') w') : if Region.wanted o (yielded ops a.tmps) = true then Oper.wp P o a w K Q else E := by
  have hw : Region.wanted o (yielded ops a.tmps) = true := by simp [Region.wanted, hgd]
  rw [if_pos hw]
  exact Lib.wp_append_run w s x t tn ho vs vx hs hx v' w' hr h
/-- 'append(l, x)', x in a block of its own: what it comes to. -/
theorem app_one {w : World} {base H : Nat} {vv : Value} {A : List En} {y : En} (h : EOwn w base vv A) (hy : w.heap[H]? = some (.cells #[.int .i64 y.s, .int .i64 y.e, .int .i64 y.f, .int .i64 y.o, .bool y.sh, .int .i64 y.p, .int .i64 y.m, .int .i64 y.i, .int .i64 y.a, .bool y.wi] 50 (0, 0))) (hl : A.length ≤ 100000) (hb : base ≤ w.heap.size) :
    ∃ g' c' w', (Builtin.append_ #[47, 47] 47 #[vv, .slice (some ⟨H, 0, none⟩) 1 1]).run Tryz.prog w = .ok (.slice (some ⟨g', 0, none⟩) (A.length + 1) c') w' ∧ EOwn w' base (.slice (some ⟨g', 0, none⟩) (A.length + 1) c') (A ++ [y]) ∧ w.grownBy w' vv.ownBlock ∧ (vv.ownBlock = some g' ∨ g' = w.heap.size) := by
  obtain ⟨i0, hi, hz0, hz1, hz2⟩ := en_info
  obtain ⟨v', w', h1, h2, h3, h4, h5⟩ := run_append_own_at (P := Tryz.prog) w base 47 47 50 i0 (.agg #[.int .i64 0, .int .i64 0, .int .i64 0, .int .i64 0, .bool false, .int .i64 0, .int .i64 0, .int .i64 0, .int .i64 0, .bool false]) 10 80 Tryz.underlying47 hi hz0 hz1 hz2 rfl (by decide) vv A.length (A.flatMap enCells) h ⟨H, 0, none⟩ 1 1 (enCells y) (by rw [en_len]) (fun j u hu => by rw [Addr.add_mid, Nat.zero_add, cell_of_row _ _ _ _ _ _ hy]; simpa [enCells] using hu) (en_one y) (by unfold maxLen; omega) (by omega) hb
  have hown : EOwn w' base v' (A ++ [y]) := by
    unfold EOwn OwnOf
    rw [List.length_append, List.flatMap_append]
    simpa using h2
  obtain ⟨g', c', hv⟩ := OwnOf.there hown (by simp)
  rw [List.length_append] at hv
  have hv : v' = .slice (some ⟨g', 0, none⟩) (A.length + 1) c' := hv
  subst hv
  refine ⟨g', c', w', h1, hown, h3, ?_⟩
  rcases h5 with e | e
  · exact .inl e.symm
  · exact .inr (Option.some.inj e)
set_option maxRecDepth 100000 in
set_option maxHeartbeats 4000000 in
theorem fork_ok {w : World} {r : Nat} {v : Value} {L : List En} (h : VM w r v L) (hm : MapL L) (hl : L.length ≤ 900) :
    Calls Tryz.prog 130 #[.pointer (some ⟨r, 0, none⟩)] w fun e w' => ∃ rc v', e = .returned (.pointer (some ⟨rc, 0, none⟩)) ∧ w.heap.size ≤ rc ∧ VM w' rc v' (forkV L) ∧ (∀ b, v'.ownBlock = some b → w.heap.size ≤ b) ∧ w.grownBy w' none := by
  have HM := Lib.hid (made_ok h)
  have HN := Lib.hid (new_ok w)
  obtain ⟨a, c, hv⟩ := h.form
  subst hv
  have HH := Lib.hid h
  obtain ⟨n, hn⟩ : ∃ n, L.length = n := ⟨_, rfl⟩
  have HNn := Lib.hid hn
  have HMl := Lib.hid hm
  rw [hn] at hl HH
  clear h hm hn
  go_enter Tryz.func130, Tryz.ntmps130
  go_wp2_with fail
  refine HM.out.mono ?_
  rintro e w1 ⟨rfl, e1⟩
  subst e1
  go_wp2_with fail
  refine HN.out.mono ?_
  rintro e w2 ⟨rfl, k1, g2⟩
  obtain ⟨rc, hrc⟩ : ∃ rc, w1.heap.size = rc := ⟨_, rfl⟩
  rw [hrc] at k1 ⊢
  have hrl : r ≠ rc := by have := HH.out.lt; omega
  have c2 := (HH.out.grow g2).at0
  have HI := Lib.hid (show VM w2 rc (.slice none 0 0) (childL (L.take 0)) from k1)
  have HG2 := Lib.hid g2
  clear k1 g2
  go_wp2_with fail
  go_loopw [15] (fun iv wr => ∃ (q : Nat) (vv : Value), q ≤ n ∧ iv = .int .i64 q ∧ Hid (VM wr rc vv (childL (L.take q))) ∧ Hid (w1.grownBy wr none)) (fun iv _ => n - (intOf iv).toNat)
  case atStart => exact ⟨0, _, by omega, rfl, HI, HG2⟩
  case round =>
    clear HI HG2
    obtain ⟨q, vv, hq, rfl, HV, HG⟩ := hrel
    by_cases hlt : q < n
    · obtain ⟨x, hx⟩ : ∃ x, L[q]? = some x := ⟨_, List.getElem?_eq_getElem (by rw [HNn.out]; exact hlt)⟩
      obtain ⟨g, o, c3, hv1, ka0, ka1, ka2, ka3, ka4, ka5, ka6, ka7, ka8, ka9⟩ := en_cells (HH.out.grow HG.out).row hx
      rw [HNn.out] at hv1
      injection hv1 with e1 e2 e3
      subst e1 e3
      have HCt := Lib.hid (child_take hx)
      have hkx := (EnB.new wr x).all
      have hfx := (EnB.new wr x).frozen
      obtain ⟨k0, k1, k2, k3, k4, k5, k6, k7, k8, k9⟩ := hkx
      by_cases hi2 : x.i = 2
      · rw [if_neg (by simpa using hi2), List.append_nil] at HCt
        have b0 : (x.i == 2) = true := by simpa using hi2
        clear hx
        go_wp2_with fail
        go_roundw
        case rel => exact ⟨q + 1, vv, by omega, by go_num, by rw [HCt.out]; exact Lib.hid (HV.out.grow (World.grownBy_alloc _ _ _)), Lib.hid (grown_trans HG.out (World.grownBy_alloc _ _ _))⟩
        case measure => simp [intOf]; omega
      · rw [if_pos (by simpa using hi2)] at HCt
        have b0 : (x.i == 2) = false := by simpa using hi2
        clear hx
        go_upto_region 9 with fail
        obtain ⟨wb, hwb⟩ : ∃ wb, wr.alloc (.cells #[.int .i64 (unwire x).s, .int .i64 (unwire x).e, .int .i64 (unwire x).f, .int .i64 (unwire x).o, .bool (unwire x).sh, .int .i64 (unwire x).p, .int .i64 (unwire x).m, .int .i64 (unwire x).i, .int .i64 (unwire x).a, .bool (unwire x).wi] 50) = wb := ⟨_, rfl⟩
        have hBb : EnB wb wr.heap.size (unwire x) := by rw [← hwb]; exact EnB.new wr (unwire x)
        have gb : wr.grownBy wb none := by rw [← hwb]; exact World.grownBy_alloc _ _ _
        have hVb := HV.out.grow gb
        have HGb := Lib.hid (grown_trans HG.out gb)
        have gA : wb.grownBy ((wb.alloc (.cells #[.int .i64 x.s, .int .i64 x.e, .int .i64 x.f, .int .i64 x.o, .bool x.sh, .int .i64 x.p, .int .i64 x.m, .int .i64 x.i, .int .i64 x.a, .bool false] 50)).drew) none := grown_trans (World.grownBy_alloc _ _ _) (grown_drew1 _)
        obtain ⟨g', c', w5, hap, hown5, g5, hat5⟩ := app_one (y := unwire x) (hVb.grow gA).own (heap_alloc_new wb (.cells #[.int .i64 x.s, .int .i64 x.e, .int .i64 x.f, .int .i64 x.o, .bool x.sh, .int .i64 x.p, .int .i64 x.m, .int .i64 x.i, .int .i64 x.a, .bool false] 50)) (by have := child_len (L.take q); rw [List.length_take, HNn.out] at this; omega) (by have := (hVb.grow gA).lt; omega)
        have hd5 : w5.heap[rc]? = some (.cells #[vv, .bool true] 164 (0, 0)) := (g5.block rc (hVb.grow gA).lt (fun e => (hVb.grow gA).ne e.symm rfl)).trans (hVb.grow gA).head
        have c5 : w5.cell? ⟨rc, 0, none⟩ = some vv := by rw [cell_of_row _ _ _ _ _ _ hd5]; rfl
        have f5 : w5.frozen? ⟨rc, 0, none⟩ = false := frozen_of_row _ _ _ _ _ hd5
        have HV5 := Lib.hid (VM.put hd5 hown5)
        have hv0 : ∀ b, vv.ownBlock = some b → w1.heap.size ≤ b := fun b hb => by have := (OwnOf.lt HV.out.own hb).1; omega
        have HG5 := Lib.hid (grown_at (grown_own (grown_trans HGb.out gA) g5 hv0) (grown_set w5 rc 0 (.slice (some ⟨g', 0, none⟩) ((childL (L.take q)).length + 1) c')) (by omega))
        have d0 := hVb.at0
        have d1 := (hVb.grow gA).at0
        have q0 := hBb.all
        obtain ⟨q0, q1, q2, q3, q4, q5, q6, q7, q8, q9⟩ := q0
        obtain ⟨nl, hnl⟩ : ∃ nl, (childL (L.take q)).length + 1 = nl := ⟨_, rfl⟩
        rw [hnl] at hap HV5 HG5
        have HAP := Lib.hid hap
        have hwb' : wr.alloc (.cells #[.int .i64 x.s, .int .i64 x.e, .int .i64 x.f, .int .i64 x.o, .bool x.sh, .int .i64 x.p, .int .i64 x.m, .int .i64 x.i, .int .i64 x.a, .bool false] 50) = wb := hwb
        rw [hwb']
        have hq0 : wb.cell? ⟨wr.heap.size, 0, none⟩ = some (.int .i64 x.s) := q0
        have hq1 : wb.cell? ⟨wr.heap.size, 1, none⟩ = some (.int .i64 x.e) := q1
        have hq2 : wb.cell? ⟨wr.heap.size, 2, none⟩ = some (.int .i64 x.f) := q2
        have hq3 : wb.cell? ⟨wr.heap.size, 3, none⟩ = some (.int .i64 x.o) := q3
        have hq4 : wb.cell? ⟨wr.heap.size, 4, none⟩ = some (.bool x.sh) := q4
        have hq5 : wb.cell? ⟨wr.heap.size, 5, none⟩ = some (.int .i64 x.p) := q5
        have hq6 : wb.cell? ⟨wr.heap.size, 6, none⟩ = some (.int .i64 x.m) := q6
        have hq7 : wb.cell? ⟨wr.heap.size, 7, none⟩ = some (.int .i64 x.i) := q7
        have hq8 : wb.cell? ⟨wr.heap.size, 8, none⟩ = some (.int .i64 x.a) := q8
        have hq9 : wb.cell? ⟨wr.heap.size, 9, none⟩ = some (.bool false) := q9
        clear hap hown5 g5 hat5 hd5 hv0 hVb gA gb hBb hwb hwb' q0 q1 q2 q3 q4 q5 q6 q7 q8 q9 hnl k0 k1 k2 k3 k4 k5 k6 k7 k8 k9 hfx ka0 ka1 ka2 ka3 ka4 ka5 ka6 ka7 ka8 ka9
        go_region_law (refine step_app_run rfl _ _ _ _ rfl _ _ (by simp [Act.eval, Act.put]) (by simp [Act.eval, Act.put]) _ _ HAP.out ?_)
        all_goals
          go_wp2_with fail
          go_roundw
          case rel => exact ⟨q + 1, _, by omega, by go_num, by rw [HCt.out]; exact HV5, HG5⟩
          case measure => simp [intOf]; omega
    · obtain rfl : q = n := by omega
      have hV := HV.out
      rw [List.take_of_length_le (by rw [HNn.out]; exact Nat.le_refl _)] at hV
      obtain ⟨va, vc, hvf⟩ := hV.form
      subst hvf
      have hrf := rf_child HMl.out.rf
      have hcl := child_len L
      rw [HNn.out] at hcl
      have HMg := Lib.hid (merge_ok vc hV.row hrf (by omega))
      have HVV := Lib.hid hV
      have c5 := hV.at0
      clear hV hrf HV
      go_wp2_with fail
      refine HMg.out.mono ?_
      rintro e w5 ⟨u5, rfl, hown5, g5⟩
      obtain ⟨a5, c6, hvf⟩ := OwnOf.form hown5
      subst hvf
      have hd5 := (HVV.out.grow g5).head
      have d5 := (HVV.out.grow g5).at0
      have f5 := (HVV.out.grow g5).frozen
      have hlow : EOwn w5 (rc + 1) (.slice a5 (mergeE (childL L)).length c6) (mergeE (childL L)) := OwnOf.lower hown5 (by have := HVV.out.lt; omega)
      have HF := Lib.hid (VM.put hd5 hlow)
      have HG5 := Lib.hid (grown_at (grown_trans HG.out g5) (grown_set w5 rc 0 (.slice a5 (mergeE (childL L)).length c6)) (by omega))
      have HB := Lib.hid (fun b (hb : (Value.slice a5 (mergeE (childL L)).length c6).ownBlock = some b) => (OwnOf.lt hown5 hb).1)
      have hsz := HG.out.size
      clear hown5 g5 hd5 hlow
      go_wp2_with fail
      go_ret
      exact ⟨rc, _, rfl, by omega, HF.out, fun b hb => Nat.le_trans hsz (HB.out b hb), HG5.out⟩
end Go.Proofs.YtefiiooibbkffaaGreat
