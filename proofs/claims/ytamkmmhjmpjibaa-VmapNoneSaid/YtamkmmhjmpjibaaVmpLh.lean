/- Layer 16 (landed): what change does to the entries of a range, over whatever is set. Layer 16 (landed): change. -/
import Derived.Test.YtamkmmhjmpjibaaVmpLf
namespace Go.Proofs.Ytamkmmhjmpjibaa
open Go.ChangeShapes Go.WideShapes Go.ChangeAt Go.RowKit Go.Deep
set_option linter.unusedVariables false
set_option linter.unusedSimpArgs false

/-- The first error of a list. -/
def errL (f : En → Int × En) : List En → Int
  | [] => 0
  | x :: r => if (f x).1 = 0 then errL f r else (f x).1
theorem errL_take {f : En → Int × En} : ∀ {G : List En} {q : Nat} {x : En}, (∀ i y, i < q → G[i]? = some y → (f y).1 = 0) → G[q]? = some x → (f x).1 ≠ 0 → errL f G = (f x).1
  | [], q, x, _, hx, _ => by simp at hx
  | y :: r, 0, x, _, hx, h0 => by
    simp at hx
    subst hx
    unfold errL
    rw [if_neg h0]
  | y :: r, q + 1, x, h, hx, h0 => by
    unfold errL
    rw [if_pos (h 0 y (by omega) rfl)]
    exact errL_take (fun i z hi hz => h (i + 1) z (Nat.succ_lt_succ hi) (by simpa using hz)) (by simpa using hx) h0
theorem errL_none {f : En → Int × En} : ∀ {G : List En}, (∀ i y, i < G.length → G[i]? = some y → (f y).1 = 0) → errL f G = 0
  | [], _ => rfl
  | y :: r, h => by
    unfold errL
    rw [if_pos (h 0 y (by simp) rfl)]
    exact errL_none fun i z hi hz => h (i + 1) z (Nat.succ_lt_succ hi) (by simpa using hz)
def chErr (f : En → Int × En) (G : List En) (lo hi : Int) : Int := if wholeB G lo hi = true then errL f G else 5
/-- As far as a change has come. -/
def soFar (f : En → Int × En) (G : List En) (q : Nat) : List En := (G.take q).map (fun x => (f x).2) ++ G.drop q
theorem soFar_len (f : En → Int × En) (G : List En) (q : Nat) : (soFar f G q).length = G.length := by
  unfold soFar
  rw [List.length_append, List.length_map, List.length_take, List.length_drop]
  omega
theorem soFar_at {f : En → Int × En} {G : List En} {q : Nat} {x : En} (hx : G[q]? = some x) : (soFar f G q)[q]? = some x := by
  have hq := (List.getElem?_eq_some_iff.1 hx).1
  unfold soFar
  rw [List.getElem?_append_right (by rw [List.length_map, List.length_take]; omega), List.length_map, List.length_take, List.getElem?_drop, ← hx]
  congr 1
  omega
theorem soFar_next {f : En → Int × En} {G : List En} {q : Nat} {x : En} (hx : G[q]? = some x) : (soFar f G q).set q (f x).2 = soFar f G (q + 1) := by
  have hq := (List.getElem?_eq_some_iff.1 hx).1
  unfold soFar
  have hl : ((G.take q).map (fun x => (f x).2)).length = q := by rw [List.length_map, List.length_take]; omega
  rw [List.set_append_right _ _ (by omega), hl, Nat.sub_self, get_eq hx, List.set_cons_zero, takel_at hx, List.map_append, List.append_assoc]
  rfl
theorem soFar_all (f : En → Int × En) (G : List En) : soFar f G G.length = G.map (fun x => (f x).2) := by
  unfold soFar
  rw [List.take_length, List.drop_length, List.append_nil]
set_option maxRecDepth 100000 in
set_option maxHeartbeats 4000000 in
theorem change1_ok {w : World} {b0 b1 b2 base c : Nat} {a : Option Addr} {lo hi : Int} {G : List En} (gs : Nat) (rcs caps : Array Value) (egs : ∀ args w, (callFunc gs args).run Try.prog w = .ok (.enter gs args) w)
    (q0 : w.cell? ⟨b0, 0, none⟩ = some (.int .i64 lo)) (q2 : w.cell? ⟨b2, 0, none⟩ = some (.int .i64 hi)) (q1 : w.cell? ⟨b1, 0, none⟩ = some (.func (.func gs) rcs caps)) (hown : EOwn w base (.slice a G.length c) G) (hb0 : b0 < base) (hb1 : b1 < base) (hb2 : b2 < base) (hr : RF 0 G) (hl : G.length ≤ 1000) (f : En → Int × En)
    (HS : ∀ W g k x G', Turn [g] w W → base ≤ g → G'.length = G.length → x ∈ G → EOwn W base (.slice (some ⟨g, 0, none⟩) G.length c) G' → G'[k]? = some x → Calls Try.prog gs (rcs.push (.pointer (some ⟨g, k * 10, none⟩)) ++ caps) W fun e W' => e = .returned (.int .i64 (f x).1) ∧ ((f x).1 = 0 → EOwn W' base (.slice (some ⟨g, 0, none⟩) G.length c) (G'.set k (f x).2)) ∧ Turn [g] W W') :
    Calls Try.prog 74 #[.slice a G.length c, .pointer (some ⟨b0, 0, none⟩), .pointer (some ⟨b2, 0, none⟩), .pointer (some ⟨b1, 0, none⟩)] w fun e w' => ∃ u2, e = .returned (.tuple #[u2, .int .i64 (chErr f G lo hi)]) ∧ (chErr f G lo hi = 0 → EC w' u2 (G.map fun x => (f x).2)) ∧ Turn (blkL (.slice a G.length c)) w w' := by
  obtain ⟨d, hd⟩ : ∃ d, wholeB G lo hi = d := ⟨_, rfl⟩
  have HW := Lib.hid (whole_ok (EOwn.ec hown) hr (by omega) lo hi d hd)
  cases d with
  | false =>
    have e : chErr f G lo hi = 5 := by unfold chErr; rw [hd]; rfl
    rw [e]
    clear e hd HS hown hr hl
    go_enter Try.func74, Try.ntmps74
    go_wp2_with fail
    refine HW.out.mono ?_
    rintro e w2 ⟨rfl, g2⟩
    have HG2 := Lib.hid g2
    clear g2
    go_wp2_with fail
    go_ret2
    exact ⟨_, rfl, fun h => by first | cases h | omega, Turn.grown HG2.out⟩
  | true =>
    have e : chErr f G lo hi = errL f G := by unfold chErr; rw [hd]; rfl
    rw [e]
    have HO := Lib.hid hown
    have HHS := Lib.hid HS
    have hq1g := fun W (g : w.grownBy W none) => g.cell q1 (by simp)
    obtain ⟨n, hn⟩ : ∃ n, G.length = n := ⟨_, rfl⟩
    rw [hn] at HW HO HHS hl ⊢
    have HNn := Lib.hid hn
    clear e hd HS hown hr hn hq1g
    go_enter Try.func74, Try.ntmps74
    go_wp2_with fail
    refine HW.out.mono ?_
    rintro e w2 ⟨rfl, g2⟩
    have HI := Lib.hid (show EOwn w2 base (.slice a n c) (soFar f G 0) from OwnOf.grow HO.out g2)
    have HT0 := Lib.hid (show Turn (blkL (.slice a n c)) w w2 from Turn.grown g2)
    clear g2
    go_wp2_with fail
    go_loopw [16] (fun iv wr => ∃ q : Nat, q ≤ n ∧ iv = .int .i64 q ∧ Hid (EOwn wr base (.slice a n c) (soFar f G q)) ∧ Hid (Turn (blkL (.slice a n c)) w wr) ∧ Hid (∀ i y, i < q → G[i]? = some y → (f y).1 = 0)) (fun iv _ => n - (intOf iv).toNat)
    case atStart => exact ⟨0, by omega, rfl, HI, HT0, fun i y hi _ => by omega⟩
    case round =>
      clear HI HT0
      obtain ⟨q, hq, rfl, HJ, HT, HE⟩ := hrel
      by_cases hlt : q < n
      · obtain ⟨x, hx⟩ : ∃ x, G[q]? = some x := ⟨_, List.getElem?_eq_getElem (by rw [HNn.out]; exact hlt)⟩
        obtain ⟨g, c3, hv⟩ := OwnOf.there HJ.out (by rw [soFar_len, HNn.out]; omega)
        injection hv with e1 e2 e3
        subst e1
        clear e2 e3
        have hbg : base ≤ g := (OwnOf.lt HJ.out rfl).1
        have hTd : Turn [g] w wr.drew := HT.out.trans' (Turn.grown (grown_drew1 wr))
        have hblk := fun (b : Nat) (hb : b < base) (hw : b < w.heap.size) => hTd.block b hw (by simp; omega)
        have hw1 : b1 < w.heap.size := by
          rcases Nat.lt_or_ge b1 w.heap.size with h' | h'
          · exact h'
          · simp [World.cell?, Array.getElem?_eq_none h'] at q1
        have q1r : wr.cell? ⟨b1, 0, none⟩ = some (.func (.func gs) rcs caps) := by
          have hk := hblk b1 hb1 hw1
          have e := World.cell?_of_block (w := w) (w' := wr.drew) (a := ⟨b1, 0, none⟩) hk
          exact e.trans q1
        have HSx := Lib.hid (HHS.out wr.drew g q x (soFar f G q) hTd hbg (by rw [soFar_len]; exact HNn.out) (List.mem_of_getElem? hx) (OwnOf.grow HJ.out (grown_drew1 wr)) (soFar_at hx))
        obtain ⟨er, her⟩ : ∃ er, (f x).1 = er := ⟨_, rfl⟩
        rw [her] at HSx
        have HTd := Lib.hid hTd
        have q1d : wr.drew.cell? ⟨b1, 0, none⟩ = some (.func (.func gs) rcs caps) := q1r
        have hk5 : ∀ W', Turn [g] wr.drew W' → W'.cell? ⟨b1, 0, none⟩ = some (.func (.func gs) rcs caps) := fun W' t => by
          have hk := t.block b1 (by have := hTd.size; omega) (by simp; omega)
          exact (World.cell?_of_block (w := wr.drew) (w' := W') (a := ⟨b1, 0, none⟩) hk).trans q1d
        have HK5 := Lib.hid hk5
        clear hk5
        by_cases h0 : er = 0
        · subst h0
          have HEn := Lib.hid (show ∀ i y, i < q + 1 → G[i]? = some y → (f y).1 = 0 from fun i y hi hy => by
            by_cases hi2 : i = q
            · subst hi2
              rw [hx] at hy
              cases hy
              exact her
            · exact HE.out i y (by omega) hy)
          have HNx := Lib.hid (soFar_next (f := f) hx)
          clear hx her hblk hw1 hTd HHS HW HE
          go_upto_region 6 with fail
          go_region_held3 (fun w7 => w7.cell? ⟨b1, 0, none⟩ = some (.func (.func gs) rcs caps)) (first | exact q1r | exact q1d | exact k5 | fail)
            (first
              | (go_at_fn gs; with_reducible refine HSx.out.mono ?_; rintro e w5 ⟨rfl, k1, k2⟩; have k5 := HK5.out w5 k2; have H5 := Lib.hid k1; have T5 := Lib.hid k2; clear k1 k2)
              | fail)
          go_wp2_with fail
          go_roundw
          case rel => exact ⟨q + 1, by omega, by go_num, by rw [← HNx.out]; exact H5.out (by first | trivial | rfl), HTd.out.trans' T5.out, HEn⟩
          case measure => simp [intOf]; omega
        · have h0b : (er == 0) = false := by simpa using h0
          have HEr := Lib.hid (show errL f G = er from (errL_take HE.out hx (by rw [her]; exact h0)).trans her)
          clear hx her hblk hw1 hTd HHS HW HE
          go_upto_region 6 with fail
          go_region_held3 (fun w7 => w7.cell? ⟨b1, 0, none⟩ = some (.func (.func gs) rcs caps)) (first | exact q1r | exact q1d | exact k5 | fail)
            (first
              | (go_at_fn gs; with_reducible refine HSx.out.mono ?_; rintro e w5 ⟨rfl, k1, k2⟩; have k5 := HK5.out w5 k2; have H5 := Lib.hid k1; have T5 := Lib.hid k2; clear k1 k2)
              | fail)
          go_wp2_with fail
          go_ret2
          refine ⟨_, by rw [HEr.out]; rfl, fun h => absurd (HEr.out.symm.trans h) h0, HTd.out.trans' T5.out⟩
      · obtain rfl : q = n := by omega
        have HEr := Lib.hid (show errL f G = 0 from errL_none fun i y hi hy => HE.out i y (by rw [HNn.out] at hi; exact hi) hy)
        have HF := Lib.hid (show EC wr (.slice a q c) (G.map fun x => (f x).2) by
          have h1 := EOwn.ec HJ.out
          rw [show soFar f G q = G.map (fun x => (f x).2) by rw [← HNn.out]; exact soFar_all f G] at h1
          exact h1)
        clear HHS HW HE
        go_wp2_with fail
        go_ret2
        refine ⟨_, by rw [HEr.out]; rfl, fun _ => HF.out, HT.out⟩
end Go.Proofs.Ytamkmmhjmpjibaa

namespace Go.Proofs.Ytamkmmhjmpjibaa
open Go.ChangeShapes Go.WideShapes Go.ChangeAt Go.RowKit Go.Deep
set_option linter.unusedVariables false
set_option linter.unusedSimpArgs false

/-- What a change comes to: its error, and the list. -/
def chD (f : En → Int × En) (L : List En) (lo n : Int) (may : Bool) : Int × List En :=
  if (may && rangeV lo n) = true then (chErr f (goneE L lo (lo + n)) lo (lo + n), if chErr f (goneE L lo (lo + n)) lo (lo + n) = 0 then mergeE (chgE (fun x => (f x).2) L lo (lo + n)) else L) else (2, L)
theorem eg_change : ∀ args w, (callFunc 74 args).run Try.prog w = .ok (.enter 74 args) w := enters_of Try.func74 (by kernel_rfl) rfl
set_option maxRecDepth 100000 in
set_option maxHeartbeats 4000000 in
theorem change_ok {w : World} {r : Nat} {v : Value} {L : List En} (h : VM w r v L) (hm : MapL L) (hl : L.length ≤ 900) (lo n : Int) (ho : okI lo) (hn : okI n) (may : Bool) (gs : Nat) (rcs caps : Array Value) (egs : ∀ args w, (callFunc gs args).run Try.prog w = .ok (.enter gs args) w)
    (f : En → Int × En) (hse : ∀ x, (f x).2.s = x.s ∧ (f x).2.e = x.e) (hrf : rangeV lo n = true → may = true → chErr f (goneE L lo (lo + n)) lo (lo + n) = 0 → RF 0 ((goneE L lo (lo + n)).map fun x => (f x).2))
    (HS : (may && rangeV lo n) = true → ∀ (W : World) (base g q c k : Nat) (x : En) (G' : List En), (∀ b, b < w.heap.size → W.heap[b]? = w.heap[b]?) → w.heap.size ≤ g → G'.length = q → EOwn W base (.slice (some ⟨g, 0, none⟩) q c) G' → G'[k]? = some x → GoodE x → Calls Try.prog gs (rcs.push (.pointer (some ⟨g, k * 10, none⟩)) ++ caps) W fun e W' => e = .returned (.int .i64 (f x).1) ∧ ((f x).1 = 0 → EOwn W' base (.slice (some ⟨g, 0, none⟩) q c) (G'.set k (f x).2)) ∧ Turn [g] W W') :
    Calls Try.prog 51 #[.pointer (some ⟨r, 0, none⟩), .int .i64 lo, .int .i64 n, .bool may, .func (.func gs) rcs caps] w fun e w' => e = .returned (.int .i64 (chD f L lo n may).1) ∧ ∃ v', VM w' r v' (chD f L lo n may).2 ∧ New w v v' ∧ Turn (r :: blkL v) w w' := by
  obtain ⟨w1, hw1⟩ : ∃ w1, (w.alloc (.cells #[.int .i64 lo] 3)).alloc (.cells #[.func (.func gs) rcs caps] 86) = w1 := ⟨_, rfl⟩
  have g1 : w.grownBy w1 none := by rw [← hw1]; exact grown_trans (World.grownBy_alloc _ _ _) (World.grownBy_alloc _ _ _)
  have hs1 : w1.heap.size = w.heap.size + 2 := by rw [← hw1]; simp
  have hb0 : w1.heap[w.heap.size]? = some (.cells #[.int .i64 lo] 3 (0, 0)) := by rw [← hw1, heap_alloc_old _ _ (by simp)]; exact heap_alloc_new w _
  have hb1 : w1.heap[w.heap.size + 1]? = some (.cells #[.func (.func gs) rcs caps] 86 (0, 0)) := by rw [← hw1]; exact heap_second w _ _
  have HA := Lib.hid (asked_ok (h.grow g1) lo n ho hn may)
  have c0 : w1.cell? ⟨w.heap.size, 0, none⟩ = some (.int .i64 lo) := by rw [cell_of_row _ _ _ _ _ _ hb0]; rfl
  cases k : (may && rangeV lo n) with
  | false =>
    have e : chD f L lo n may = (2, L) := by unfold chD; rw [k]; rfl
    rw [e]
    rw [k] at HA
    have HV := Lib.hid (h.grow g1)
    have HG := Lib.hid g1
    have HW1 := Lib.hid hw1
    clear e k h hm hl ho hn HS hrf hb0 hb1 g1
    go_enter Try.func51, Try.ntmps51
    go_wp2_with fail
    refine HA.out.mono ?_
    rintro e w2 ⟨rfl, e1⟩
    subst e1
    go_wp2_with fail
    go_ret
    exact ⟨rfl, _, HV.out, New.refl _ _, Turn.grown HG.out⟩
  | true =>
    have k' := k
    have hmay : may = true := by cases may with | true => rfl | false => cases k
    have hrg : rangeV lo n = true := by rw [hmay] at k; exact k
    obtain ⟨r1, r2, r3, r4⟩ := range_iff.1 hrg
    have e : chD f L lo n may = (chErr f (goneE L lo (lo + n)) lo (lo + n), if chErr f (goneE L lo (lo + n)) lo (lo + n) = 0 then mergeE (chgE (fun x => (f x).2) L lo (lo + n)) else L) := by unfold chD; rw [k]; rfl
    rw [e]
    rw [k] at HA
    obtain ⟨w2, hw2⟩ : ∃ w2, w1.alloc (.cells #[.int .i64 (lo + n)] 3) = w2 := ⟨_, rfl⟩
    have g2 : w1.grownBy w2 none := by rw [← hw2]; exact World.grownBy_alloc _ _ _
    have hb2 : w2.heap[w.heap.size + 2]? = some (.cells #[.int .i64 (lo + n)] 3 (0, 0)) := by rw [← hw2, ← hs1]; exact heap_alloc_new w1 _
    have hs2 : w2.heap.size = w.heap.size + 3 := by rw [← hw2]; simp; omega
    have g12 := grown_trans g1 g2
    obtain ⟨G, hG⟩ : ∃ G, goneE L lo (lo + n) = G := ⟨_, rfl⟩
    rw [hG] at hrf ⊢
    have hGr : RF 0 G := by rw [← hG]; exact rf_gone _ _ hm.rf
    have hGl : G.length ≤ 1000 := by rw [← hG]; have := gone_len' lo (lo + n) hm.rf; omega
    have hGin : ∀ x, x ∈ G.map (fun x => (f x).2) → lo ≤ x.s ∧ x.e ≤ lo + n := fun y hy => by
      obtain ⟨x, hx, rfl⟩ := List.mem_map.1 hy
      rw [(hse x).1, (hse x).2]
      rw [← hG] at hx
      exact of_decide_eq_true (List.mem_filter.1 hx).2
    obtain ⟨er, her⟩ : ∃ er, chErr f G lo (lo + n) = er := ⟨_, rfl⟩
    rw [her] at hrf ⊢
    have hPl : placeL L lo (lo + n) (G.map fun x => (f x).2) = mergeE (chgE (fun x => (f x).2) L lo (lo + n)) := by rw [← hG]; exact place_chg hm (by omega) hse
    have hA := apply_ok (h.grow g12) hm hl lo (lo + n) r1 (by omega) (by omega) 74 #[] #[.pointer (some ⟨w.heap.size, 0, none⟩), .pointer (some ⟨w.heap.size + 2, 0, none⟩), .pointer (some ⟨w.heap.size + 1, 0, none⟩)] eg_change [] (fun b hb => by cases hb) (G.map fun x => (f x).2) (by rw [List.length_map]; exact hGl) er (fun _ => True) (fun _ _ _ _ _ => trivial)
      (fun w3 u c hg hu => by
        rw [hG] at hu ⊢
        have k0 := (hg.block w.heap.size (by omega) (by simp)).trans ((g2.block w.heap.size (by omega) (by simp)).trans hb0)
        have k1 := (hg.block (w.heap.size + 1) (by omega) (by simp)).trans ((g2.block (w.heap.size + 1) (by omega) (by simp)).trans hb1)
        have k2 := (hg.block (w.heap.size + 2) (by omega) (by simp)).trans hb2
        refine (change1_ok gs rcs caps egs (f := f) (lo := lo) (hi := lo + n) (b0 := w.heap.size) (b1 := w.heap.size + 1) (b2 := w.heap.size + 2) (by rw [cell_of_row _ _ _ _ _ _ k0]; rfl) (by rw [cell_of_row _ _ _ _ _ _ k2]; rfl) (by rw [cell_of_row _ _ _ _ _ _ k1]; rfl) hu (by omega) (by omega) (by omega) hGr hGl ?_).mono ?_
        · intro W g k x G' ht hbg hlG hxG hown hx
          have hgx : GoodE x := (rf_good hGr x hxG).1
          exact HS k' W w2.heap.size g G.length c k x G' (fun b hb => by
            have q := ht.block b (by have := hg.size; omega) (by simp; omega)
            exact q.trans ((hg.block b (by omega) (by simp)).trans (g12.block b hb (by simp)))) (by omega) hlG hown hx hgx
        · rintro e w4 ⟨u2, rfl, q1, q2⟩
          rw [her] at q1 ⊢
          exact ⟨u2, rfl, fun h0 => ⟨q1 h0, place_rf hm (by omega) (hrf hrg hmay h0) hGin⟩, q2.mono fun b hb => List.mem_append.2 (.inr hb), trivial⟩)
    rw [← hPl]
    obtain ⟨Lf, hLf⟩ : ∃ Lf, (if er = 0 then placeL L lo (lo + n) (G.map fun x => (f x).2) else L) = Lf := ⟨_, rfl⟩
    rw [hLf] at hA ⊢
    have HAp := Lib.hid hA
    have HG12 := Lib.hid g12
    have HW1 := Lib.hid hw1
    have HW2 := Lib.hid hw2
    have hhi : IntKind.i64.wrap (lo + n) = lo + n := by rw [IntKind.wrap_i64]; omega
    have d0 : w2.cell? ⟨w.heap.size, 0, none⟩ = some (.int .i64 lo) := g2.cell c0 (by simp)
    have d2 : w2.cell? ⟨w.heap.size + 2, 0, none⟩ = some (.int .i64 (lo + n)) := by rw [cell_of_row _ _ _ _ _ _ hb2]; rfl
    clear hA hPl hLf g12 g1 g2 e k h hm hl ho hn HS hrf hb0 hb1 hb2 hG hGr hGl hGin her hse hmay hrg hs2
    go_enter Try.func51, Try.ntmps51
    go_wp2_with fail
    refine HA.out.mono ?_
    rintro e w3 ⟨rfl, e1⟩
    subst e1
    go_wp2_with fail
    refine HAp.out.mono ?_
    rintro e w4 ⟨rfl, v', k1, k2, k3, -⟩
    have H1 := Lib.hid k1
    have H2 := Lib.hid k2
    have H3 := Lib.hid k3
    clear k1 k2 k3
    go_wp2_with fail
    go_ret
    exact ⟨rfl, v', H1.out, H2.out.after HG12.out.size, (Turn.grown HG12.out).trans' (H3.out.mono fun b hb => by simpa using hb)⟩
end Go.Proofs.Ytamkmmhjmpjibaa
