/- ObjectNone, walked: a pool that no call made. -/
import Derived.Test.YtefcefclncbimaaObAct
import Derived.Deep.RegionHeld3
import Derived.OwnWalk
namespace Go.Proofs.Ytefcefclncbimaa
open Go.ChangeShapes Go.WideShapes Go.ChangeAt Go.RowKit Go.Deep
set_option linter.unusedVariables false
attribute [local go_sem] Oper.semAt_some

def resO (b : Bool) : Obj := .cells #[.bool b] 4
def zPool : Obj := .cells #[.int .i64 0, .map none, .map none] 68 (0, 0)
/-- The law's own blocks: the zero pool, the answer, the act. -/
def nB (y : Nat) (A : OActV) : List (Nat × Obj) := [(y + 1 + 1, zPool), (y + 1, resO false), (y, oactObj A)]
section
variable {w wx w2 : World} {y : Nat} {A : OActV} {Ds : List Nat}
theorem nb_act (h : FixB w wx (Ds.map dfO ++ nB y A)) : wx.heap[y]? = some (oactObj A) := h.at (List.mem_append_right _ (by simp [nB]))
theorem nb_res (h : FixB w wx (Ds.map dfO ++ nB y A)) : wx.heap[y + 1]? = some (resO false) := h.at (List.mem_append_right _ (by simp [nB]))
theorem nb_pool (h : FixB w wx (Ds.map dfO ++ nB y A)) : NS14 wx (.pointer (some ⟨y + 1 + 1, 0, none⟩)) := .inr ⟨_, rfl, h.at (List.mem_append_right _ (by simp [nB, zPool]))⟩
theorem nb_df (h : FixB w wx (Ds.map dfO ++ nB y A)) {E : Nat} (hE : E ∈ Ds) : wx.heap[E]? = some (.deferred (some [])) := h.at (List.mem_append_left _ (List.mem_map.2 ⟨E, hE, rfl⟩))
end
set_option maxRecDepth 100000 in
set_option maxHeartbeats 4000000 in
theorem none_walk14 {D : World → Nat → Nat → ObL → List Nat → Prop} (H : ObOk D) (w : World) (A : OActV) (hA : A.Ok) :
    Calls Try.prog 6 #[.agg #[.int .i64 A.k, .int .i64 A.id, .int .i64 A.a, .int .i64 A.p.fr, .int .i64 A.p.sl, .bool A.p.d]] w fun e w' => e = .returned (.bool true) ∧ w.grownBy w' none := by
  have HLv := Lib.hid (fun wx => lives14 H wx)
  have hsq := eql_seq14
  obtain ⟨y, hy⟩ : ∃ y, w.heap.size = y := ⟨_, rfl⟩
  have g1 := World.grownBy_alloc w (oactObj A) none
  have f1 : FixB w (w.alloc (oactObj A)) [(y, oactObj A)] := (FixB.nil w).new g1 (by rw [← hy]; exact heap_alloc_new w _) (by omega)
  have s1 : (w.alloc (oactObj A)).heap.size = y + 1 := by rw [World.size_alloc]; omega
  have f2 : FixB w ((w.alloc (oactObj A)).alloc (resO false)) [(y + 1, resO false), (y, oactObj A)] := f1.new (World.grownBy_alloc _ _ none) (by rw [← s1]; exact heap_alloc_new _ _) (by omega)
  have s2 : ((w.alloc (oactObj A)).alloc (resO false)).heap.size = y + 1 + 1 := by rw [World.size_alloc, s1]
  have f3 : FixB w (((w.alloc (oactObj A)).alloc (resO false)).alloc zPool) (nB y A) := f2.new (World.grownBy_alloc _ _ none) (by rw [← s2]; exact heap_alloc_new _ _) (by omega)
  have H3 := Lib.hid f3
  have HOk := Lib.hid hA
  clear H g1 f1 s1 f2 s2 f3 hA
  unfold oactObj resO zPool at H3
  refine (callsIn_wide (n := 9)).1 ?_
  refine callsIn_of_wp_marks Try.func6 rfl trivial ?_ rfl
  simp only [Try.ntmps6, List.size_toArray, List.length_cons, List.length_nil, Nat.reduceAdd, Nat.reduceSub, Array.replicate_succ, Array.replicate_zero, List.push_toArray, List.append_toArray, List.nil_append, List.cons_append]
  refine wpIn_wide.2 ?_
  go_wp2_with fail
  generalize ((w.alloc (.cells #[.int .i64 A.k, .int .i64 A.id, .int .i64 A.a, .int .i64 A.p.fr, .int .i64 A.p.sl, .bool A.p.d] 32)).alloc (.cells #[.bool false] 4)).alloc (.cells #[.int .i64 0, .map none, .map none] 68) = w0 at *
  refine wp_loop (fun a9 w9 => ∃ (u5 u6 u7 u8 u9 u10 u11 u12 u14 u15 u16 u17 u18 u19 u20 u21 u22 u23 u24 u25 u26 u27 u28 u29 u30 u31 u32 u33 u34 u35 u36 u37 u38 u39 u40 u41 u42 u43 u44 u45 u46 u47 u48 u49 u50 u51 u52 u53 u54 u55 u56 u57 u58 u59 u60 u61 u62 u63 u64 u65 u66 u67 u68 u69 u70 u71 u72 u73 u74 u75 u76 u77 u78 u79 u80 u81 u82 u83 u84 u85 u86 u87 u88 u89 u90 u91 u92 u93 u94 u95 : Value) (ds : List Deferred), (∃ (j : Nat) (Ds : List Nat), j ≤ 2 ∧ u14 = .int .i64 (j : Int) ∧ ds = marks Ds ∧ Hid Ds.Nodup ∧ Hid (FixB w w9 (Ds.map dfO ++ nB y A))) ∧ a9 = { tmps := #[.agg #[.int .i64 A.k, .int .i64 A.id, .int .i64 A.a, .int .i64 A.p.fr, .int .i64 A.p.sl, .bool A.p.d], .pointer (some ⟨y, 0, none⟩), .pointer (some ⟨y + 1, 0, none⟩), .pointer (some ⟨y + 1 + 1, 0, none⟩), undef, u5, u6, u7, u8, u9, u10, u11, u12, .agg #[.pointer none, .pointer (some ⟨y + 1 + 1, 0, none⟩)], u14, u15, u16, u17, u18, u19, u20, u21, u22, u23, u24, u25, u26, u27, u28, u29, u30, u31, u32, u33, u34, u35, u36, u37, u38, u39, u40, u41, u42, u43, u44, u45, u46, u47, u48, u49, u50, u51, u52, u53, u54, u55, u56, u57, u58, u59, u60, u61, u62, u63, u64, u65, u66, u67, u68, u69, u70, u71, u72, u73, u74, u75, u76, u77, u78, u79, u80, u81, u82, u83, u84, u85, u86, u87, u88, u89, u90, u91, u92, u93, u94, u95, undef], defers := ds }) (fun a9 _ => 2 - (intOf (a9.tmps.getD 14 undef)).toNat) ?_ ?_
  · (repeat apply Exists.intro)
    refine ⟨?_, rfl⟩
    exact ⟨0, [], by omega, rfl, rfl, List.nodup_nil, H3⟩
  · clear H3
    intro _ wr hinv
    obtain ⟨u5, u6, u7, u8, u9, u10, u11, u12, u14, u15, u16, u17, u18, u19, u20, u21, u22, u23, u24, u25, u26, u27, u28, u29, u30, u31, u32, u33, u34, u35, u36, u37, u38, u39, u40, u41, u42, u43, u44, u45, u46, u47, u48, u49, u50, u51, u52, u53, u54, u55, u56, u57, u58, u59, u60, u61, u62, u63, u64, u65, u66, u67, u68, u69, u70, u71, u72, u73, u74, u75, u76, u77, u78, u79, u80, u81, u82, u83, u84, u85, u86, u87, u88, u89, u90, u91, u92, u93, u94, u95, ds, hrel, ha⟩ := hinv
    subst ha
    obtain ⟨j, Ds, hj, rfl, rfl, HNd, HF⟩ := hrel
    by_cases hlt : j < 2
    · obtain ⟨v, hv, HV⟩ : ∃ v : Value, (∀ W, (Instr.index 69 (.agg #[.pointer none, .pointer (some ⟨y + 1 + 1, 0, none⟩)]) (.int .i64 (j : Int))).run Try.prog W = .ok v W) ∧ Hid (∀ wx, FixB w wx (Ds.map dfO ++ nB y A) → NS14 wx v) := by
        rcases (show j = 0 ∨ j = 1 by omega) with rfl | rfl
        · exact ⟨.pointer none, fun _ => by kernel_rfl, fun wx h => .inl rfl⟩
        · exact ⟨.pointer (some ⟨y + 1 + 1, 0, none⟩), fun _ => by kernel_rfl, fun wx h => nb_pool h⟩
      have hjb : decide (j < 2) = true := decide_eq_true hlt
      have HC := Lib.hid (noneOk14.make (HV.out _ HF.out) A.a)
      obtain ⟨b0, b1, b2, b3, b4, b5⟩ := oact_at (nb_act HF.out)
      go_wp2_with fail
      refine HC.out.mono ?_
      rintro e w5 ⟨rfl, g5⟩
      have H5 := Lib.hid (HF.out.grow g5)
      have HC := Lib.hid (noneOk14.ref (HV.out _ H5.out) A.id A.a)
      obtain ⟨z0, z1, z2, z3, z4, z5⟩ := oact_at (nb_act H5.out)
      clear g5 b0 b1 b2 b3 b4 b5 HF
      go_wp2_with fail
      refine HC.out.mono ?_
      rintro e w6 ⟨rfl, g6⟩
      have H6 := Lib.hid (H5.out.grow g6)
      have hk := noneOk14.get (HV.out _ H6.out) A.id A.a
      unfold getVO pgAgg zeroP at hk
      simp only at hk
      have HC := Lib.hid hk
      obtain ⟨b0, b1, b2, b3, b4, b5⟩ := oact_at (nb_act H6.out)
      clear g6 z0 z1 z2 z3 z4 z5 H5 hk
      go_wp2_with fail
      refine HC.out.mono ?_
      rintro e w7 ⟨rfl, g7⟩
      have H7 := H6.out.grow (grown_trans g7 (World.grownBy_alloc w7 (.cells #[.int .i64 0, .int .i64 0, .bool false] 30 (0, 0)) none))
      have HB6 := Lib.hid (H7.grow (grown_drew1 _))
      have hkd := oact_at (nb_act HB6.out)
      clear g7 b0 b1 b2 b3 b4 b5 H6 H7
      go_wp2_with fail
      go_region_held3 (fun w' => w'.cell? ⟨y, 0, none⟩ = some (.int .i64 A.k) ∧ w'.cell? ⟨y, 1, none⟩ = some (.int .i64 A.id) ∧ w'.cell? ⟨y, 2, none⟩ = some (.int .i64 A.a) ∧ w'.cell? ⟨y, 3, none⟩ = some (.int .i64 A.p.fr) ∧ w'.cell? ⟨y, 4, none⟩ = some (.int .i64 A.p.sl) ∧ w'.cell? ⟨y, 5, none⟩ = some (.bool A.p.d)) (exact hkd)
        (first
          | (go_at_call 15; with_reducible refine ((noneOk14.put (HV.out _ HB6.out) A.id A.a A.p.fr A.p.sl A.p.d).mono ?_); rintro e w9 ⟨rfl, g9⟩; replace HB6 := Lib.hid (HB6.out.grow g9); replace hkd := oact_at (nb_act HB6.out); clear g9)
          | (go_at_call 17; with_reducible refine ((noneOk14.drop (HV.out _ HB6.out) A.id A.a).mono ?_); rintro e w9 ⟨rfl, g9⟩; replace HB6 := Lib.hid (HB6.out.grow g9); replace hkd := oact_at (nb_act HB6.out); clear g9)
          | (go_at_call 21; with_reducible refine ((noneOk14.of (HV.out _ HB6.out) A.a).mono ?_); rintro e w9 ⟨rfl, g9⟩; replace HB6 := Lib.hid (HB6.out.grow g9); replace hkd := oact_at (nb_act HB6.out); clear g9)
          | (go_at_call 23; with_reducible refine ((noneOk14.file (HV.out _ HB6.out) A.id).mono ?_); rintro e w9 ⟨rfl, g9⟩; replace HB6 := Lib.hid (HB6.out.grow g9); replace hkd := oact_at (nb_act HB6.out); clear g9)
          | (go_at_call 26; with_reducible refine ((noneOk14.ids (HV.out _ HB6.out)).mono ?_); rintro e w9 ⟨a9, c9, rfl, g9⟩; replace HB6 := Lib.hid (HB6.out.grow g9); replace hkd := oact_at (nb_act HB6.out); clear g9))
      all_goals
        have HC := Lib.hid (noneOk14.pages (HV.out _ HB6.out) A.id 0 4096)
        obtain ⟨b0, b1, b2, b3, b4, b5⟩ := hkd
        go_wp2_with fail
        refine HC.out.mono ?_
        rintro e wa ⟨Bs, u, rfl, hBs, hr, ho, hB, ga⟩
        have HA := Lib.hid (HB6.out.grow ga)
        have HBs := Lib.hid hBs
        have HR := Lib.hid hr
        clear hBs hr ho hB ga b0 b1 b2 b3 b4 b5 HC
        go_wp2_with fail
        refine (wpIn_wide (n := 9)).1 ?_
        refine wpIn_rangeFunc_ownH rfl (by omega) (gf := 40) (lb := #[.pointer (some ⟨Bs, 0, none⟩)]) rfl trivial (enters_of Try.func40 (by kernel_rfl) rfl)
          (pages1_stops 8 (by omega) Bs u [] (by decide) u.ownBlock.toList (fun g e => by rw [e]; simp) _ HBs.out HR.out) (fun h k => kpG_t h k) (fun W l o o' hl ho hc _ => kpG_b (B := wa.heap.size) (fun k hk => row_lt HR.out (by simpa using hk)) W l o' hl) (Below.refl _ _) (fun _ => rfl)
          (fun _ W => FixB w W (Ds.map dfO ++ nB y A)) (fun _ _ _ => False)
          (fun s A9 B9 row hs hg hr => hs.ofOwn (base := wa.heap.size) (fun b hb => HA.out.lt hb) HA.out.grown.size hg fun r e => (hr r e).1) (fun c s A9 B9 row hs hg hr => hs) HA.out
          (fun _ _ _ => True) (fun _ _ _ _ _ _ _ _ _ => trivial) ?assign ?body ?done ?stop
        case assign =>
          intro lp pre xx Wd K hI hK
          first
            | exact wpIn_skip (hK _ _ (KeepsFrom.refl _ _) (fun k _ => rfl) hI trivial)
            | (gi_wp2; exact hK _ _ (KeepsFrom.refl _ _) (fun k _ => rfl) hI trivial)
        case body =>
          rintro lp pre xx a' Wd hl he hI hx hlt2
          simp at hlt2
        case stop =>
          rintro Dn c pre Wd hD hp hx hK
          cases hx
        case done =>
          rintro Dn ys Wd hD - hI hK
          have hnew : Dn ∉ Ds := fun hm => by have := HA.out.lt (b := dfO Dn) (List.mem_append_left _ (List.mem_map.2 ⟨Dn, hm, rfl⟩)); have : Dn < wa.heap.size := this; omega
          have HN2 := Lib.hid (List.nodup_cons.2 ⟨hnew, HNd.out⟩)
          have HF2 := Lib.hid (show FixB w Wd ((Dn :: Ds).map dfO ++ nB y A) from ⟨hI.grown, fun b hb => by
            rcases List.mem_cons.1 hb with rfl | hb
            · exact hK
            · exact hI.fix b hb, fun b hb => by
            rcases List.mem_cons.1 hb with rfl | hb
            · exact Nat.le_trans HA.out.grown.size hD
            · exact hI.own b hb⟩)
          clear hI hK hnew hD
          go_wp2_with fail
          refine And.intro ?inv ?measure
          case inv => exact ⟨_, _, _, _, _, _, _, _, _, _, _, _, _, _, _, _, _, _, _, _, _, _, _, _, _, _, _, _, _, _, _, _, _, _, _, _, _, _, _, _, _, _, _, _, _, _, _, _, _, _, _, _, _, _, _, _, _, _, _, _, _, _, _, _, _, _, _, _, _, _, _, _, _, _, _, _, _, _, _, _, _, _, _, _, _, _, _, _, _, _, _, ⟨j + 1, Dn :: Ds, by omega, by go_num, rfl, HN2, HF2⟩, rfl⟩
          case measure => simp [intOf]; omega
    · obtain rfl : j = 2 := by omega
      go_wp2_with fail
      refine (HLv.out _).mono ?_
      rintro e w6 ⟨rfl, g6⟩
      have h6 := HF.out.grow g6
      have hres := nb_res h6
      have cr : w6.cell? ⟨y + 1, 0, none⟩ = some (.bool false) := by unfold resO at hres; rw [cell_of_row _ _ _ _ _ _ hres]; rfl
      have cf : w6.frozen? ⟨y + 1, 0, none⟩ = false := by unfold resO at hres; exact frozen_of_row w6 (y + 1) 0 _ _ hres
      have H6 := Lib.hid h6
      have HRes := Lib.hid hres
      clear g6 h6 hres HF
      go_wp2_with fail
      have hdr : ∀ E, E ∈ Ds → E ≠ y + 1 := fun E hE e => by
        have h1 := nb_df H6.out hE
        rw [e, HRes.out] at h1
        cases h1
      refine leaves_marks Ds _ HNd.out (fun E hE => ?_) fun w' t => ?_
      · exact (heap_setCell_other _ ⟨y + 1, 0, none⟩ E _ (by first | exact hdr E hE | exact (hdr E hE).symm)).trans (nb_df H6.out hE)
      · have h1 : (w6.setCell ⟨y + 1, 0, none⟩ (.bool true)).heap[y + 1]? = some (.cells #[.bool true] 4) := heap_setCell_same w6 (y + 1) 0 _ _ _ HRes.out
        have h2 : w'.heap[y + 1]? = some (.cells #[.bool true] 4) := (t.block _ (Array.getElem?_eq_some_iff.1 h1).1 (fun hm => hdr _ hm rfl)).trans h1
        refine ⟨_, results_cell_bool rfl _ _ (y + 1) (.bool true) rfl (by rw [cell_of_row _ _ _ _ _ _ h2]; rfl), rfl, ?_⟩
        have hy1 : w.heap.size ≤ y + 1 := by omega
        exact ((Turn.grown (grown_at H6.out.grown (grown_set w6 (y + 1) 0 _) hy1)).trans' t).noGrown (O := Ds) fun E hE => H6.out.own (dfO E) (List.mem_append_left _ (List.mem_map.2 ⟨E, hE, rfl⟩))
theorem none_done14 (w : World) (A : OActV) (hA : A.Ok) : Calls Try.prog 6 #[.agg #[.int .i64 A.k, .int .i64 A.id, .int .i64 A.a, .int .i64 A.p.fr, .int .i64 A.p.sl, .bool A.p.d]] w fun e w' => e = .returned (.bool true) ∧ w.grownBy w' none := none_walk14 obOk w A hA
end Go.Proofs.Ytefcefclncbimaa
