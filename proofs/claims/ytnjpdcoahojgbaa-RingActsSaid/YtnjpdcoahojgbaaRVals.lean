/- slices.Values over numbers, its iterator; the makers of both iterators; a row told whole (All). -/
import Derived.Maps.AppendAt
import Derived.Test.YtnjpdcoahojgbaaRIter
namespace Go.Proofs.Ytnjpdcoahojgbaa.RInt
open Go.ChangeShapes Go.WideShapes Go.ChangeAt Go.RowKit
set_option linter.unusedVariables false
attribute [local go_sem] Oper.semAt_some

theorem Ints.keptB {w w' : World} {s : Option Addr} {l : Nat} {xs : List Int} (h : Ints w s l xs) (hb : ∀ a, s = some a → l ≠ 0 → w'.heap[a.block]? = w.heap[a.block]?) : Ints w' s l xs := by
  refine ⟨h.len, ?_⟩
  by_cases h0 : l = 0
  · exact .inl h0
  · rcases h.cells with h1 | ⟨g, o, hs, hc⟩
    · exact .inl h1
    · refine .inr ⟨g, o, hs, fun i x hi => ?_⟩
      exact (World.cell?_of_block (w := w) (a := ⟨g, o + i, none⟩) (show w'.heap[g]? = w.heap[g]? from hb ⟨g, o, none⟩ hs h0)).trans (hc i x hi)

set_option maxRecDepth 100000 in
set_option maxHeartbeats 1000000 in
theorem values1_in {α : Type} (f : α → Int) (n : Nat) (hn : 1 ≤ n) (l Bs : Nat) (s : Option Addr) (c : Nat) (zs : List α) (hz : zs.length ≤ 1000000) (G : List Nat) (hG : ∀ a, s = some a → zs.length ≠ 0 → a.block ∈ G) (J Jx : List α → World → Prop)
    (hY : ∀ pre x W, J pre W → pre.length < zs.length → YieldAt Fence.wide (n - 1) Try.prog l #[.int .i64 (f x)] W fun e W' =>
      (e = .returned (.bool true) ∧ J (pre ++ [x]) W' ∧ KpB G W W') ∨ (e = .returned (.bool false) ∧ Jx (pre ++ [x]) W'))
    (W : World) (hBs : W.cell? ⟨Bs, 0, none⟩ = some (.slice s zs.length c)) (hI : Ints W s zs.length (zs.map f)) (h0 : J [] W) :
    CallsIn Fence.wide n Try.prog 55 #[.func (.yield l) #[] #[], .pointer (some ⟨Bs, 0, none⟩)] W fun e W' => (∃ v, e = .returned v) ∧
      ((∃ ys, ys = zs ∧ J ys W') ∨ (∃ pre, pre <+: zs ∧ Jx pre W')) := by
  have HI := Lib.hid hI
  have HG := Lib.hid hG
  clear hI hG
  refine callsIn_of_wp Try.func55 rfl trivial ?_ rfl
  simp only [Try.ntmps55, List.size_toArray, List.length_cons, List.length_nil, Nat.reduceAdd, Nat.reduceSub, Array.replicate_succ, Array.replicate_zero, List.push_toArray, List.append_toArray, List.nil_append, List.cons_append]
  gi_wp2
  gi_loopw [7] (fun i wr => ∃ k : Nat, k ≤ zs.length ∧ i = .int .i64 k ∧ J (zs.take k) wr ∧ Hid (Ints wr s zs.length (zs.map f)))
    (fun i _ => zs.length - (intOf i).toNat)
  case atStart => exact ⟨0, Nat.zero_le _, rfl, h0, HI⟩
  case round =>
    obtain ⟨k, hk, rfl, hJs, HK⟩ := hrel
    by_cases hlt : k < zs.length
    · obtain ⟨x, hx⟩ : ∃ x, zs[k]? = some x := ⟨_, List.getElem?_eq_getElem hlt⟩
      have htk : zs.take (k + 1) = zs.take k ++ [x] := by rw [List.take_add_one, hx]; rfl
      obtain ⟨g, o, rfl, hc⟩ : ∃ g o, s = some ⟨g, o, none⟩ ∧ wr.cell? ⟨g, o + k, none⟩ = some (.int .i64 (f x)) := by
        rcases HK.out.cells with h0 | ⟨g, o, hs, hc⟩
        · omega
        · exact ⟨g, o, hs, hc k (f x) (by simp [hx])⟩
      have HT := Lib.hid htk
      obtain ⟨fn, tmps, assign, body, hy, hR⟩ := hY (zs.take k) x wr hJs (by simp; omega)
      clear hx htk
      gi_wp2
      refine hR.mono ?_
      rintro e W3 (⟨rfl, hJ3, hk3⟩ | ⟨rfl, hJx3⟩)
      · have HK3 := Lib.hid (HK.out.keptB (w' := W3) fun a ha h1 => by cases ha; exact hk3 _ (HG.out _ rfl h1))
        gi_wp2
        go_roundw
        case rel => exact ⟨k + 1, by omega, by simp, by rw [HT.out]; exact hJ3, HK3⟩
        case measure => simp [intOf]; omega
      · gi_wp2
        refine bodyPost_ret (results_none rfl _ _ _) rfl ?_
        exact ⟨⟨_, rfl⟩, .inr ⟨_, ⟨zs.drop (k + 1), by rw [← HT.out, List.take_append_drop]⟩, hJx3⟩⟩
    · obtain rfl : k = zs.length := by omega
      rw [List.take_length] at hJs
      gi_wp2
      go_end0
      exact ⟨⟨_, rfl⟩, .inl ⟨_, rfl, hJs⟩⟩

/-- What slices.Values hands back, at a box that holds the slice. -/
theorem values_stops {α : Type} (f : α → Int) (n : Nat) (hn : 1 ≤ n) (Bs : Nat) (s : Option Addr) (c : Nat) (zs : List α) (hz : zs.length ≤ 1000000) (G : List Nat) (hG : ∀ a, s = some a → zs.length ≠ 0 → a.block ∈ G) (w : World)
    (hBs : w.cell? ⟨Bs, 0, none⟩ = some (.slice s zs.length c)) (hI : Ints w s zs.length (zs.map f)) :
    SeqStopsK Fence.wide n Try.prog 55 #[.pointer (some ⟨Bs, 0, none⟩)] (fun x : α => #[Value.int .i64 (f x)]) (KpB G) (fun ys => ys = zs) (fun pre => pre <+: zs) zs.length w := fun l J Jx W hW _ _ hY h0 =>
  values1_in f n hn l Bs s c zs hz G hG J Jx hY W ((hW.cell (p := ⟨Bs, 0, none⟩) (World.block_lt_of_cell? w _ hBs)).trans hBs) (hI.below hW) h0

theorem values_of (s : Option Addr) (l c : Nat) (w : World) :
    Calls Try.prog 48 #[.slice s l c] w fun e w' => e = .returned (.func (.func 55) #[] #[.pointer (some ⟨w.heap.size, 0, none⟩)]) ∧ w' = w.alloc (.cells #[.slice s l c] 34) := by
  have hmf : ∀ (fn : Fn) (first cap : Array Value) (w : World), (Instr.makeFunc fn first cap).run Try.prog w = .ok (.func fn first cap) w := fun _ _ _ _ => rfl
  go_enter Try.func48, Try.ntmps48
  go_wp2
  go_ret
  exact ⟨rfl, rfl⟩

theorem walk_of (a : Addr) (w : World) :
    Calls Try.prog 47 #[.pointer (some a)] w fun e w' => e = .returned (.func (.func 54) #[] #[.pointer (some ⟨w.heap.size, 0, none⟩)]) ∧ w' = w.alloc (.cells #[.pointer (some a)] 86) := by
  have hmf : ∀ (fn : Fn) (first cap : Array Value) (w : World), (Instr.makeFunc fn first cap).run Try.prog w = .ok (.func fn first cap) w := fun _ _ _ _ => rfl
  go_enter Try.func47, Try.ntmps47
  go_wp2
  go_ret
  exact ⟨rfl, rfl⟩

/-- What All hands back: a box with a slice of the row's numbers. -/
def Told (w : World) (xs : List Int) (e : Ending) (w' : World) : Prop :=
  ∃ B v, e = .returned (.func (.func 55) #[] #[.pointer (some ⟨B, 0, none⟩)]) ∧ w'.cell? ⟨B, 0, none⟩ = some v ∧ Nums w' w.heap.size v xs ∧ w.heap.size ≤ B ∧ B < w'.heap.size ∧ v.ownBlock ≠ some B ∧ Below w.heap.size w w'

/-- No such row: nothing is told. -/
theorem all_none (w : World) (p : Option Addr) (m : Nat) (h : ∀ w1, Below w.heap.size w w1 → Wide w1 p m) (r : Int) (hr : ¬ (0 ≤ r ∧ r < m)) : Calls Try.prog 32 #[.pointer p, .int .i64 r] w (Told w []) := by
  have HW := Lib.hid (has_no (w.alloc (.cells #[.slice none 0 0] 34)) p m (h _ ((Below.refl _ _).alloc (Nat.le_refl _) _)) r hr)
  clear h hr
  go_enter Try.func32, Try.ntmps32
  go_wp2_with (first | (go_at_call 46; refine (Calls.mono HW.out ?_); rintro e w' ⟨rfl, rfl⟩) | (go_at_call 48; refine (values_of _ _ _ _).mono ?_; rintro e w' ⟨rfl, rfl⟩))
  go_ret
  refine ⟨_, .slice none 0 0, rfl, ?_, Nums.nil _ _, ?_, ?_, by simp [Value.ownBlock], ?_⟩
  · simp
  · simp
  · simp
  · exact ((Below.refl _ _).alloc (Nat.le_refl _) _).alloc (by simp) _

theorem has_in {w : World} {p : Option Addr} {m : Nat} (h : Wide w p m) {r : Int} (h0 : 0 ≤ r) (h1 : r < m) (n : Nat) : CallsIn Fence.wide n Try.prog 46 #[.pointer p, .int .i64 r] w fun e w' => e = .returned (.bool true) ∧ w = w' :=
  callsIn_wide.2 (has_yes w p m h r h0 h1)

/-- The ghost with the box of the row's line. -/
def withBox (F : Gm) (O : List Nat) (Bn : Nat) (v : Value) : Gm := fun x y => if x = Bn then (#[v] : Array Value)[y]? else inOwn F O x y

/-- What a row's iterator hands back, at a box that holds the row's line. -/
theorem walk_stops {w : World} {F : Gm} {b L M cap : Nat} {S : List (List (K × Nat))} (n : Nat) (hn : 1 ≤ n) (h : At w F b L M cap S) (r : Nat) (ns : List (K × Nat)) (hr : S[r]? = some ns) (Bn : Nat) (hBn : Boxed w Bn 86 (.pointer (some ⟨L, r * 5, none⟩))) (hBo : Bn ∉ own b L M S) :
    SeqStopsK Fence.wide n Try.prog 54 #[.pointer (some ⟨Bn, 0, none⟩)] (fun x : Int => #[Value.int .i64 x]) (KpB (Bn :: own b L M S)) (fun ys => ys = ns.map (·.1)) (fun pre => pre <+: ns.map (·.1)) ns.length w := fun l J Jx W hW _ _ hY h0 => by
  have hL : L ∈ own b L M S := by simp [own]
  have hnode : ∀ m, m ∈ ns → m.2 ∈ own b L M S := fun m hm => by
    unfold own
    simp only [List.mem_cons]
    exact .inr (.inr (.inr (List.mem_map.2 ⟨m, mem_flat_of hr hm, rfl⟩)))
  have far : ∀ {x y : Nat} {v : Value}, x ∈ own b L M S → F x y = some v → (withBox F (own b L M S) Bn (.pointer (some ⟨L, r * 5, none⟩))) x y = some v := by
    intro x y v hx hv
    unfold withBox
    have e : ¬ x = Bn := fun e => hBo (by rw [← e]; exact hx)
    rw [if_neg e, inOwn_of hx]
    exact hv
  have hblk : ∀ x y v, (withBox F (own b L M S) Bn (.pointer (some ⟨L, r * 5, none⟩))) x y = some v → x ∈ Bn :: own b L M S := by
    intro x y v hv
    unfold withBox at hv
    by_cases e : x = Bn
    · exact List.mem_cons.2 (.inl e)
    · rw [if_neg e] at hv
      by_cases hx : x ∈ own b L M S
      · exact List.mem_cons_of_mem _ hx
      · simp [inOwn, hx] at hv
  have hold : Holds w (withBox F (own b L M S) Bn (.pointer (some ⟨L, r * 5, none⟩))) := by
    constructor
    · intro x y v hv
      unfold withBox at hv
      by_cases e : x = Bn
      · subst e
        simp only [if_true] at hv
        rw [cell_of_row _ _ _ _ _ _ hBn]
        exact hv
      · simp only [if_neg e] at hv
        by_cases hx : x ∈ own b L M S
        · rw [inOwn_of hx] at hv
          exact h.holds.cell _ _ _ hv
        · simp [inOwn, hx] at hv
    · intro x y v hv
      unfold withBox at hv
      by_cases e : x = Bn
      · subst e
        exact ⟨_, _, hBn⟩
      · simp only [if_neg e] at hv
        by_cases hx : x ∈ own b L M S
        · rw [inOwn_of hx] at hv
          exact h.holds.zero _ _ _ hv
        · simp [inOwn, hx] at hv
  have hrn : (L :: ns.map (·.2)).Nodup := by
    obtain ⟨S1, S2, rfl, _⟩ := at_split hr
    exact h.ring.rowNodup
  refine walk1_in n hn l Bn L r (Bn :: own b L M S) _ hblk ns ?_ ?_ (fun m hm => far (hnode m hm) (h.ring.item r ns m hr hm).1) (List.nodup_cons.1 hrn).2 (List.nodup_cons.1 hrn).1 J Jx hY W (hold.kept fun x y v hv => hW.block x (hold.lt hv)) h0
  · simp [withBox, ptr, endOf]
  · refine (h.ring.chain r ns hr).mono fun u v hu hv huv => ?_
    have blk : ∀ y, y ∈ ringOf L r ns → y.1 ∈ own b L M S := by
      intro y hy
      rcases block_ring hy with rfl | ⟨m, hm, rfl⟩
      · exact hL
      · exact hnode m hm
    exact ⟨far (blk u (List.dropLast_subset _ hu)) huv.1, far (blk v (List.mem_of_mem_tail hv)) huv.2⟩

set_option maxRecDepth 100000 in
set_option maxHeartbeats 2000000 in
theorem all_some {w : World} {F : Gm} {b L M cap : Nat} {S : List (List (K × Nat))} (h : At w F b L M cap S) (r : Nat) (ns : List (K × Nat)) (hr : S[r]? = some ns) :
    Calls Try.prog 32 #[.pointer (some ⟨b, 0, none⟩), .int .i64 r] w (Told w (ns.map (·.1))) := by
  refine (callsIn_wide (n := 9)).1 ?_
  have hlt : r < S.length := (List.getElem?_eq_some_iff.1 hr).1
  have hb0 : Below w.heap.size w (w.alloc (.cells #[.slice none 0 0] 34)) := (Below.refl _ _).alloc (Nat.le_refl _) _
  have h1 := h.below hb0
  have HA := Lib.hid (has_in (wide_at h1) (r := (r : Int)) (by omega) (by omega) 8)
  have c0 := h1.holds.cell _ _ _ h1.ring.lines
  have H1 := Lib.hid h1
  clear h1
  refine callsIn_of_wp_marks Try.func32 rfl trivial ?_ rfl
  simp only [Try.ntmps32, List.size_toArray, List.length_cons, List.length_nil, Nat.reduceAdd, Nat.reduceSub, Array.replicate_succ, Array.replicate_zero, List.push_toArray, List.append_toArray, List.nil_append, List.cons_append]
  gi_wp2_with fail
  refine ⟨trivial, ?_⟩
  refine (HA.out).mono ?_
  rintro e w' ⟨rfl, rfl⟩
  gi_wp2_with fail
  refine ⟨trivial, ?_⟩
  refine (callsIn_wide.2 (walk_of _ _)).mono ?_
  rintro e w' ⟨rfl, rfl⟩
  gi_wp2_with fail
  have hsz1 : ((w.alloc (.cells #[.slice none 0 0] 34)).alloc (.cells #[.pointer (some ⟨L, r * 5, none⟩)] 86)).heap.size = w.heap.size + 2 := by simp
  have hB0 : Below w.heap.size w ((w.alloc (.cells #[.slice none 0 0] 34)).alloc (.cells #[.pointer (some ⟨L, r * 5, none⟩)] 86)) := ((Below.refl _ w).alloc (Nat.le_refl _) _).alloc (by simp) _
  have bO := Boxed.new w 34 (.slice none 0 0)
  have bN := Boxed.new (w.alloc (.cells #[.slice none 0 0] 34)) 86 (.pointer (some ⟨L, r * 5, none⟩))
  rw [World.size_alloc] at bN
  have h2 := h.below hB0
  have hout : ∀ g, g ∈ own b L M S → g < w.heap.size := fun g hg => h.lt hg
  have hG2 : ∀ g, g ∈ (w.heap.size + 1) :: own b L M S → g < w.heap.size + 2 ∧ g ≠ w.heap.size := by
    intro g hg
    rcases List.mem_cons.1 hg with rfl | hg
    · omega
    · have := hout g hg; omega
  have hmax : ns.length ≤ 4096 := by
    have := h.max
    obtain ⟨S1, S2, rfl, _⟩ := at_split hr
    simp at this
    omega
  obtain ⟨i0, hi, hz0, hz1, hz2⟩ := info_parts info_int
  refine wpIn_rangeFunc_ownG rfl (by omega) (gf := 54) (lb := #[.pointer (some ⟨w.heap.size + 1, 0, none⟩)]) rfl trivial (enters_of Try.func54 (by kernel_rfl) rfl)
    (walk_stops 8 (by omega) h2 r ns hr (w.heap.size + 1) bN (fun hm => by have := hout _ hm; omega)) (fun h k => kpB_t h k) (kpB_b (by intro k hk; rw [hsz1]; exact (hG2 k hk).1)) (Below.refl _ _) (fun _ => rfl)
    (fun pre W => (∃ v, Boxed W w.heap.size 34 v ∧ W.ownsRow (w.heap.size + 2) 3 1 v pre.length (pre.map (Value.int .i64)) ∧ True) ∧ Below w.heap.size w W ∧ w.heap.size + 2 ≤ W.heap.size)
    (fun _ _ _ => False)
    (OwnFrom.and (Own.from (holdsRow_own (w.heap.size + 2) w.heap.size 34 3 1 (fun pre : List Int => pre.length) (fun pre : List Int => pre.map (Value.int .i64)) (fun _ _ => True)) _) (OwnFrom.and (ownFrom_below (Nat.le_refl _) (by simp; omega)) (fun s A B row hs hg _ => Nat.le_trans hs hg.size)))
    (fun _ _ _ _ _ hs _ _ => hs)
    ⟨⟨_, bO.alloc _, World.ownsRow_nil _ _ _ _, trivial⟩, hB0, by simp⟩
    (fun x => { tmps := #[.pointer (some ⟨b, 0, none⟩), .int .i64 r, undef, undef, .nilFunc, .pointer (some ⟨w.heap.size, 0, none⟩), .int .i64 x, .pointer (some ⟨b, 0, none⟩), .int .i64 r, .bool true, .pointer (some ⟨b, 0, none⟩), .pointer (some ⟨b, 0, none⟩), .pointer (some ⟨b, 0, none⟩), .slice (some ⟨L, 0, none⟩) S.length cap, .int .i64 r, .pointer (some ⟨L, r * 5, none⟩), .func (.func 54) #[] #[.pointer (some ⟨w.heap.size + 1, 0, none⟩)], .int .i64 x, undef, undef, undef, undef, undef, undef], defers := [] }) ?assign ?body ?done ?stop
  case assign =>
    intro l x W K hK
    gi_wp2
    exact hK
  case body =>
    rintro l pre x W ⟨⟨v, hv, hrow, _⟩, hB, hsz⟩ hlt
    have hc := hv.cell
    have hrow0 : W.ownsRow w.heap.size 3 1 v pre.length (pre.map (Value.int .i64)) := Nums.lower (base := w.heap.size + 2) (xs := pre) hrow (by omega)
    gi_wp2_with (gi_at_builtin; refine wpListIn_append_own _ rfl _ _ 34 rfl (w.heap.size + 2) 3 i0 (.int .i64 0) 1 8 Try.underlying34 hi hz0 hz1 hz2 rfl (by decide) _ _ _ rfl (hrow.alloc _) ⟨W.heap.size, 0, none⟩ 1 1 [.int .i64 x] rfl rfl (cell_one_new _ _ _) (by simp [Value.oneCell']) (by unfold maxLen; omega) (by omega) (by simp; omega) ?_; intro v' w1 hown' hgrow _; obtain ⟨g', cap', rfl⟩ := ownsRow_succ hown'; obtain ⟨hv1, hv2, hr2, hk2, hb2⟩ := hv.appended (by decide) hrow0 hB.size (Nat.le_refl _) (Nums.lower (base := w.heap.size + 2) (xs := pre ++ [x]) (by unfold Nums; simpa using hown') (by omega)) hgrow; have hc1 := hv1.cell; have hf1 := hv1.frozen)
    have hr3 := World.ownsRow.kept hown' (grownBy_setCell' w1 w.heap.size (.slice (some ⟨g', 0, none⟩) (pre.length + 1) cap')) (.inr (hv1.not_row (by decide) hown').symm)
    have hkp : KpB ((w.heap.size + 1) :: own b L M S) W (w1.setCell ⟨w.heap.size, 0, none⟩ (.slice (some ⟨g', 0, none⟩) (pre.length + 1) cap')) := by
      intro k hk
      obtain ⟨k1, k2⟩ := hG2 k hk
      rw [heap_setCell_other _ _ _ _ k2, hgrow.block k (by simp; omega) ?_, Below.heap_alloc _ _ _ (by omega)]
      intro e
      have := (World.ownsRow.lt hrow k e.symm).1
      omega
    refine ⟨hk2.from _, hkp, ⟨_, hv2, ?_, trivial⟩, hB.trans hb2, ?_⟩
    · simpa using hr3
    · exact Nat.le_trans hsz hb2.size
  case done =>
    rintro D ys W hD rfl ⟨⟨v, hv, hrow, _⟩, hB, hsz⟩ hK
    have hc := hv.cell
    have hN0 : Nums W (w.heap.size + 2) v (ns.map (·.1)) := by unfold Nums; simpa using hrow
    obtain ⟨xs, hxs⟩ : ∃ xs, xs = ns.map (·.1) := ⟨_, rfl⟩
    have HXS := Lib.hid hxs
    have hN : Nums W (w.heap.size + 2) v xs := by rw [hxs]; exact hN0
    clear hN0 hxs hrow
    obtain ⟨a, c, rfl⟩ := hN.form
    gi_wp2_with fail
    refine ⟨trivial, ?_⟩
    refine (callsIn_wide.2 (values_of _ _ _ _)).mono ?_
    rintro e w' ⟨rfl, rfl⟩
    gi_wp2
    have hK' : (W.alloc (.cells #[.slice a xs.length c] 34)).heap[D]? = some (.deferred (some [])) := (Below.heap_alloc _ _ _ (Array.getElem?_eq_some_iff.1 hK).1).trans hK
    refine ⟨by simp, .inl ⟨_, _, rfl, run_takeDeferred hK', ?_⟩⟩
    have hDlt : D < W.heap.size := (Array.getElem?_eq_some_iff.1 hK).1
    have hDn : w.heap.size ≤ D := by rw [hsz1] at hD; omega
    refine ⟨_, results_tmp rfl _ _ _, W.heap.size, .slice a xs.length c, rfl, ?_, ?_, by omega, by simp, ?_, ?_⟩
    · have e1 : ((W.alloc (.cells #[.slice a xs.length c] 34)).putObj D (.deferred none)).heap[W.heap.size]? = (W.alloc (.cells #[.slice a xs.length c] 34)).heap[W.heap.size]? := World.putObj_heap_other (by omega)
      rw [World.cell?_of_block (w := W.alloc (.cells #[.slice a xs.length c] 34)) (a := ⟨W.heap.size, 0, none⟩) e1]
      simp
    · rw [← HXS.out]
      refine (hN.lower (by omega)).kept fun g hg => ?_
      have hgl := hN.lt hg
      have hgD : g ≠ D := by
        rintro rfl
        rcases hN.2 with ⟨e2, _⟩ | ⟨g2, cap2, cur2, e2, _, hgb, _⟩
        · rw [e2] at hg; simp [Value.ownBlock] at hg
        · rw [e2] at hg
          simp [Value.ownBlock] at hg
          subst hg
          rw [hgb] at hK
          simp at hK
      rw [World.putObj_heap_other hgD, Below.heap_alloc _ _ _ hgl.2]
    · intro e2
      have := (hN.lt e2).2
      omega
    · exact (hB.alloc (by omega) _).trans (belowK_b (w := w) (Nat.le_refl _) _ D _ _ hDn hK' rfl rfl)
  case stop =>
    rintro D c pre W _ _ h _
    exact h.elim
end Go.Proofs.Ytnjpdcoahojgbaa.RInt
