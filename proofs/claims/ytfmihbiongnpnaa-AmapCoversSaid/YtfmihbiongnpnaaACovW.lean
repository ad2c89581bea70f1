/- AmapCovers, walked out of what package amap says. Written by wip/genacov13.py. -/
import Derived.Test.YtfmihbiongnpnaaACov
import Derived.Test.YtfmihbiongnpnaaANumW
import Derived.Test.YtfmihbiongnpnaaADh
import Derived.OwnWalk
import Derived.Deep.CutBlock
import Derived.Deep.DeepCutAuto
namespace Go.Proofs.Ytfmihbiongnpnaa
open Go.ChangeShapes Go.WideShapes Go.ChangeAt Go.RowKit Go.Deep
set_option linter.unusedVariables false
set_option linter.unusedSimpArgs false

/-- The two rows, zeros at first, whichever is made first. -/
theorem CovX.new {D : World → Nat → Nat → AmL → List Nat → Prop} (H : StOkA D) {w w0 w1 : World} {p n : Nat} {L : AmL} {O : List Nat} {X : Array Value} (h : LA D w w0 p 1 L O) (g : w0.grownBy w1 none) (hXl : X.toList = (List.replicate n 0).flatMap zCells) (hXs : X.size = n * 1) (hn : n ≤ 4096) :
    CovX D w ((w1.alloc (.cells X 3 (0, 0))).alloc (.cells X 3 (0, 0))) p w1.heap.size (w1.heap.size + 1) L O (List.replicate n 0) (List.replicate n 0) ∧ CovX D w ((w1.alloc (.cells X 3 (0, 0))).alloc (.cells X 3 (0, 0))) p (w1.heap.size + 1) w1.heap.size L O (List.replicate n 0) (List.replicate n 0) := by
  have h1 := h.grow H g
  have ga := World.grownBy_alloc w1 (.cells X 3 (0, 0)) none
  have gb := World.grownBy_alloc (w1.alloc (.cells X 3 (0, 0))) (.cells X 3 (0, 0)) none
  have h2 := (h1.grow H ga).grow H gb
  have hs := World.size_alloc w1 (.cells X 3 (0, 0))
  have hw := h1.grown.size
  have e1 : ((w1.alloc (.cells X 3 (0, 0))).alloc (.cells X 3 (0, 0))).heap[w1.heap.size]? = some (.cells X 3 (0, 0)) := (gb.block _ (by rw [hs]; omega) (by simp)).trans (heap_alloc_new w1 _)
  have e2 : ((w1.alloc (.cells X 3 (0, 0))).alloc (.cells X 3 (0, 0))).heap[w1.heap.size + 1]? = some (.cells X 3 (0, 0)) := by
    have k := heap_alloc_new (w1.alloc (.cells X 3 (0, 0))) (.cells X 3 (0, 0))
    rwa [hs] at k
  have hO : ∀ b, b ∈ O → b < w1.heap.size := H.lt h1.d
  have key : ∀ g9, w.heap.size ≤ g9 → ((w1.alloc (.cells X 3 (0, 0))).alloc (.cells X 3 (0, 0))).heap[g9]? = some (.cells X 3 (0, 0)) → ZOwn ((w1.alloc (.cells X 3 (0, 0))).alloc (.cells X 3 (0, 0))) w.heap.size (.slice (some ⟨g9, 0, none⟩) (List.replicate n (0 : Int)).length (List.replicate n (0 : Int)).length) (List.replicate n 0) := fun g9 hg e => by
    rw [List.length_replicate]
    exact ⟨by rw [flat_len zCells 1 z_len], .inr ⟨g9, n, X, by rw [List.length_replicate], hg, e, by rw [List.length_replicate]; exact Nat.le_refl _, by unfold maxLen; omega, hXs, by rw [List.length_replicate, ← hXl, List.take_of_length_le (by simp [hXs])]⟩⟩
  exact ⟨⟨h2, key _ hw e1, key _ (by omega) e2, by omega, fun k => by have := hO _ k; omega, fun k => by have := hO _ k; omega⟩, ⟨h2, key _ (by omega) e2, key _ hw e1, by omega, fun k => by have := hO _ k; omega, fun k => by have := hO _ k; omega⟩⟩

theorem out_len9 {zs gs : List Int} : (outA zs gs).length ≤ gs.length := by
  unfold outA
  refine Nat.le_trans (List.length_filter_le _ _) ?_
  rw [List.length_map]
  exact Nat.le_refl _
theorem wrap_u64_pos (x : Int) : 0 ≤ IntKind.u64.wrap x := by
  have h : IntKind.u64.wrap x = x % 18446744073709551616 := by simp [IntKind.wrap, IntKind.bits, IntKind.signed]
  rw [h]
  exact Int.emod_nonneg _ (by decide)
theorem ones_set {n i : Nat} (h : i < n) : (List.replicate i (1 : Int) ++ List.replicate (n - i) 0).set i 1 = List.replicate (i + 1) 1 ++ List.replicate (n - (i + 1)) 0 := by
  rw [List.set_append_right _ _ (by simp), List.length_replicate, Nat.sub_self, show n - i = (n - (i + 1)) + 1 by omega, List.replicate_succ, List.set_cons_zero, List.replicate_succ', List.append_assoc]
  rfl
theorem rem_nat (x : Int) {n : Int} (h : 0 < n) : ∃ r : Nat, (IntKind.u64.wrap x).tmod n = r ∧ (r : Int) < n := by
  have h0 : 0 ≤ IntKind.u64.wrap x := wrap_u64_pos x
  have h1 := Int.tmod_eq_emod_of_nonneg (b := n) h0
  have h2 := Int.emod_nonneg (IntKind.u64.wrap x) (show n ≠ 0 by omega)
  have h3 := Int.emod_lt_of_pos (IntKind.u64.wrap x) h
  exact ⟨((IntKind.u64.wrap x) % n).toNat, by rw [h1]; omega, by omega⟩

set_option maxRecDepth 100000 in
set_option maxHeartbeats 16000000 in
theorem covers_walk13 {D : World → Nat → Nat → AmL → List Nat → Prop} (H : AmOk D) (w : World) (a : Int) (sa : Option Addr) (l c : Nat) (As : List AActV) (hA : AActsAre w sa l As) (ha : okU a) :
    Calls Try.prog 4 #[.int .u64 a, .slice sa l c] w fun e w' => e = .returned (.bool true) ∧ w.grownBy w' none := by
  have HLv := Lib.hid (fun wx => lives13 H wx)
  have HT := Lib.hid H
  have HA := Lib.hid hA
  obtain ⟨m, hm1, hm2⟩ : ∃ m : Nat, a % 12 = m ∧ m < 12 := ⟨(a % 12).toNat, by omega, by omega⟩
  obtain ⟨ha0, ha1⟩ := ha
  have hq1 : a.tmod 12 = (m : Int) := by rw [Int.tmod_eq_emod_of_nonneg ha0]; exact hm1
  obtain ⟨n, hn⟩ : ∃ n : Nat, 1 + m = n := ⟨_, rfl⟩
  have hq2 : (1 : Int) + (m : Int) = (n : Int) := by omega
  have hn1 : 1 ≤ n := by omega
  have hn2 : n ≤ 12 := by omega
  have HN := Lib.hid (H.new 1 w (by omega))
  clear hn hm1
  by_cases hl60 : l ≤ 80
  · have d60 : decide ((l : Int) > 80) = false := decide_eq_false (by omega)
    obtain ⟨X, hX⟩ : ∃ X, X = madeCells #[.int .i64 0] (n * 1) := ⟨_, rfl⟩
    have hmk : ∀ W : World, (Instr.makeSlice 39 (.int .i64 (n : Int)) (.int .i64 (n : Int))).run Try.prog W = .ok (.slice (some ⟨W.heap.size, 0, none⟩) n n) (W.alloc (.cells X 3)) := fun W => by
      obtain ⟨i0, hi, hz0, hz1, hz2⟩ := info_parts info_int11
      have hr := run_make (P := Try.prog) W 39 3 i0 _ Try.underlying39 hi hz0 .i64 .i64 (n : Int) (n : Int) (by omega) (by omega) (by rw [hz2]; omega) (by omega)
      rw [hr, Int.toNat_natCast, hz1, hX]
      rfl
    have HXl := Lib.hid (show X.toList = (List.replicate n 0).flatMap zCells by rw [hX]; exact made_zeros n)
    have HXs := Lib.hid (show X.size = n * 1 by rw [hX]; unfold madeCells; simp)
    clear H hA hX
    go_enter Try.func4, Try.ntmps4
    go_wp2_with fail
    refine HN.out.mono ?_
    rintro e w1 ⟨p, O, rfl, h1, g1, o1⟩
    have H1 := Lib.hid (show LA D w w1 p 1 [] O from ⟨h1, o1, g1⟩)
    clear h1 g1 o1 HN
    have hk := HT.out.make H1.out.d (n : Int) (okS (by omega) (by omega))
    rw [make_one hn1 (by omega)] at hk
    have HK := Lib.hid hk
    clear hk
    go_wp2_with fail
    refine HK.out.mono ?_
    rintro e w2 ⟨rfl, h2⟩
    obtain ⟨O2, h2, -, -⟩ := H1.out.left h2
    have H2 := Lib.hid h2
    clear h2 HK H1 hq1 hq2
    go_upto_region 6 with fail
    go_cut [9, 10] from 55 to 58 (fun cv iv wx => ∃ C I : Nat, cv = .slice (some ⟨C, 0, none⟩) n n ∧ iv = .slice (some ⟨I, 0, none⟩) n n ∧ Hid (CovX D w wx p C I [some ⟨List.replicate n 1, List.replicate n 0⟩] O2 (List.replicate n 0) (List.replicate n 0)))
    case first =>
      go_region_with fail
      all_goals
        go_wp2_with fail
        go_meet
      · exact ⟨_, _, rfl, rfl, Lib.hid ((CovX.new HT.out.toStOkA H2.out (grown_refl _ _) HXl.out HXs.out (by omega)).1.grow HT.out.toStOkA (grown_drew1 _))⟩
      · exact ⟨_, _, rfl, rfl, Lib.hid ((CovX.new HT.out.toStOkA H2.out (grown_refl _ _) HXl.out HXs.out (by omega)).2.grow HT.out.toStOkA (grown_drew1 _))⟩
    case rest =>
      obtain ⟨C, I, rfl, rfl, HC⟩ := hcut
      clear hmk HXl HXs H2
      go_wp2_with fail
      go_loopw [61] (fun iv wr => ∃ i : Nat, i ≤ n ∧ iv = .int .i64 i ∧ Hid (CovX D w wr p C I [some ⟨List.replicate n 1, List.replicate n 0⟩] O2 (List.replicate i 1 ++ List.replicate (n - i) 0) (List.replicate n 0))) (fun iv _ => n - (intOf iv).toNat)
      case atStart => exact ⟨0, by omega, rfl, HC⟩
      case round =>
        clear HC
        obtain ⟨i, hi, rfl, HC⟩ := hrel
        by_cases hlt : i < n
        · have z1 := HC.out.frC i
          obtain ⟨v0, z0⟩ : ∃ v0, wr.cell? ⟨C, i, none⟩ = some v0 := ⟨_, HC.out.getC (v := (0 : Int)) (by rw [List.getElem?_append_right (by simp), List.length_replicate, Nat.sub_self, List.getElem?_replicate, if_pos (by omega)])⟩
          have hs := HC.out.setC HT.out.toStOkA i 1
          rw [ones_set hlt] at hs
          have HN := Lib.hid hs
          clear HC hs
          go_wp2_with fail
          go_roundw
          case rel => exact ⟨i + 1, by omega, by go_num, HN⟩
          case measure => simp [intOf]; omega
        · obtain rfl : i = n := by omega
          rw [Nat.sub_self, List.replicate_zero, List.append_nil] at HC
          go_wp2_with fail
          go_loopw [12, 70] (fun nv iv wr => ∃ (j : Nat) (cv zs : List Int) (O : List Nat) (z : Int), j ≤ l ∧ nv = .int .i64 z ∧ iv = .int .i64 j ∧ Hid (CovS D w wr p C I i j z cv zs O)) (fun _ iv _ => l - (intOf iv).toNat)
          case atStart => exact ⟨0, _, _, O2, 1, by omega, rfl, rfl, Lib.hid ⟨HC.out, List.length_replicate, List.length_replicate, (fun x hx => by rw [(List.mem_replicate.1 hx).2]; decide), by decide, by decide⟩⟩
          case round =>
            clear HC
            obtain ⟨j, cv, zs, O, z, hj, rfl, rfl, HC⟩ := hrel
            by_cases hlt : j < l
            · obtain ⟨A, hAj⟩ : ∃ A, As[j]? = some A := ⟨_, List.getElem?_eq_getElem (by rw [HA.out.len]; exact hlt)⟩
              have hmem := List.mem_of_getElem? hAj
              obtain ⟨b, o, hs, a0, a1, a2, a3⟩ := HA.out.at HC.out.x.ln.grown hAj
              subst hs
              obtain ⟨b0, b1, b2, b3⟩ := (AActB.new wr A).at
              have HX := Lib.hid (HC.out.grow HT.out.toStOkA (World.grownBy_alloc wr (.cells #[.int .i64 A.k, .int .i64 A.id, .int .i64 A.a, .int .i64 A.b] 25 (0, 0)) none))
              obtain ⟨ak, ai, aa, ab⟩ := A
              simp only at a0 a1 a2 a3 b0 b1 b2 b3 HX
              generalize hwB : wr.alloc (.cells #[.int .i64 ak, .int .i64 ai, .int .i64 aa, .int .i64 ab] 25 (0, 0)) = wB at *
              clear hAj hmem HC
              obtain ⟨lo, hlo, hlo2⟩ := rem_nat aa (n := (i : Int)) (by omega)
              obtain ⟨rr, hrr, hrr2⟩ := rem_nat ab (n := (i : Int) - (lo : Int)) (by omega)
              obtain ⟨hi9, hhi⟩ : ∃ hi9 : Nat, (lo : Int) + 1 + (rr : Int) = hi9 := ⟨lo + 1 + rr, by omega⟩
              have hh0 : lo < hi9 := by omega
              have hh1 : hi9 ≤ i := by omega
              clear hrr2
              generalize hY : wr.heap.size = Y at *
              go_upto_block 4 with fail
              clear a0 a1 a2 a3 hwB b0 b1 b2 b3 hlo hrr hhi hY
              rename_i K hK
              have tail : ∀ (u17 u18 u19 u20 u21 u22 u23 u24 u25 u26 u27 u28 u29 u30 u95 u96 u97 u98 u99 u100 u101 u102 u103 u104 u105 u106 u107 u108 u109 u110 u111 u112 u113 u114 u115 u116 u117 u118 u119 u120 u121 u122 u123 u124 u125 u126 u127 u128 u129 u130 u131 u132 u133 u134 u135 u136 u137 u138 u139 u140 u141 u142 u143 u144 u145 u146 u147 u148 u149 u150 u151 u152 u153 u154 u155 u156 u157 u158 u159 u160 u161 u162 u163 u164 u165 u166 u167 u168 u169 u170 u171 u172 u173 u174 u175 u176 u177 u178 u179 u180 u181 u182 u183 u184 u185 u186 u187 u188 u189 u190 u191 u192 u193 u194 u195 u196 u197 u198 u199 u200 u201 u202 u203 u204 u205 u206 u207 u208 u209 u210 u211 u212 u213 u214 u215 u216 u217 u218 u219 u220 u221 u222 u223 u224 u225 u226 u227 u228 u229 u230 u231 u232 u233 u234 u235 u236 u237 u238 u239 u240 u241 u242 u243 u244 u245 u246 u247 u248 u249 u250 u251 u252 u253 u254 u255 u256 u257 u258 u259 u260 u261 u262 u263 u264 u265 u266 : Value) (wx : World) (cv' zs' : List Int) (O' : List Nat) (z' : Int), Hid (CovT D w wx p C I i (j + 1) z' cv' zs' O') → K { tmps := #[Value.int IntKind.u64 a, Value.slice (some { block := b, off := o }) l c, undef, undef, u4, Value.int IntKind.i64 ↑i, Value.pointer (some { block := p, off := 0 }), Value.int IntKind.i64 1, Value.int IntKind.i64 0, Value.slice (some { block := C, off := 0 }) i i, Value.slice (some { block := I, off := 0 }) i i, u11, Value.int IntKind.i64 z', undef, Value.pointer (some { block := Y, off := 0 }), Value.int IntKind.i64 ↑lo, Value.int IntKind.i64 ↑hi9, u17, u18, u19, u20, u21, u22, u23, u24, u25, u26, u27, u28, u29, u30, u31, Value.int IntKind.u64 a, Value.int IntKind.u64 ↑m, Value.int IntKind.i64 ↑m, Value.int IntKind.i64 ↑i, Value.pointer (some { block := p, off := 0 }), Value.tuple #[Value.int IntKind.i64 1, Value.int IntKind.i64 0], Value.pointer (some { block := p, off := 0 }), Value.int IntKind.i64 ↑i, Value.tuple #[Value.int IntKind.i64 1, Value.int IntKind.i64 0], Value.int IntKind.i64 1, Value.int IntKind.i64 0, Value.int IntKind.i64 0, Value.bool false, Value.bool false, Value.slice (some { block := b, off := o }) l c, Value.int IntKind.i64 ↑l, Value.bool false, Value.bool false, undef, undef, undef, undef, undef, u55, u56, u57, u58, Value.slice (some { block := C, off := 0 }) i i, Value.int IntKind.i64 ↑i, Value.int IntKind.i64 ↑i, Value.bool false, u63, u64, u65, u66, u67, Value.slice (some { block := b, off := o }) l c, Value.int IntKind.i64 ↑l, Value.int IntKind.i64 ↑j, Value.bool true, Value.pointer (some { block := b, off := o + j * 4 }), Value.agg #[Value.int IntKind.i64 ak, Value.int IntKind.i64 ai, Value.int IntKind.i64 aa, Value.int IntKind.i64 ab], Value.pointer (some { block := Y, off := 2 }), Value.int IntKind.i64 aa, Value.int IntKind.u64 (IntKind.u64.wrap aa), Value.int IntKind.i64 ↑i, Value.int IntKind.u64 ↑i, Value.int IntKind.u64 ↑lo, Value.int IntKind.i64 ↑lo, Value.int IntKind.i64 ↑lo, Value.int IntKind.i64 (↑lo + 1), Value.pointer (some { block := Y, off := 3 }), Value.int IntKind.i64 ab, Value.int IntKind.u64 (IntKind.u64.wrap ab), Value.int IntKind.i64 ↑i, Value.int IntKind.i64 ↑lo, Value.int IntKind.i64 (↑i - ↑lo), Value.int IntKind.u64 (↑i - ↑lo), Value.int IntKind.u64 ↑rr, Value.int IntKind.i64 ↑rr, Value.int IntKind.i64 ↑hi9, Value.pointer (some { block := Y, off := 0 }), Value.int IntKind.i64 ak, u95, u96, u97, u98, u99, u100, u101, u102, u103, u104, u105, u106, u107, u108, u109, u110, u111, u112, u113, u114, u115, u116, u117, u118, u119, u120, u121, u122, u123, u124, u125, u126, u127, u128, u129, u130, u131, u132, u133, u134, u135, u136, u137, u138, u139, u140, u141, u142, u143, u144, u145, u146, u147, u148, u149, u150, u151, u152, u153, u154, u155, u156, u157, u158, u159, u160, u161, u162, u163, u164, u165, u166, u167, u168, u169, u170, u171, u172, u173, u174, u175, u176, u177, u178, u179, u180, u181, u182, u183, u184, u185, u186, u187, u188, u189, u190, u191, u192, u193, u194, u195, u196, u197, u198, u199, u200, u201, u202, u203, u204, u205, u206, u207, u208, u209, u210, u211, u212, u213, u214, u215, u216, u217, u218, u219, u220, u221, u222, u223, u224, u225, u226, u227, u228, u229, u230, u231, u232, u233, u234, u235, u236, u237, u238, u239, u240, u241, u242, u243, u244, u245, u246, u247, u248, u249, u250, u251, u252, u253, u254, u255, u256, u257, u258, u259, u260, u261, u262, u263, u264, u265, u266, u267, u268, u269, u270, u271, u272, u273, u274, u275, u276, u277, u278, u279, u280, u281, u282, u283, u284, u285, u286, u287, u288, u289, u290, u291, u292, u293, undef, undef, undef, undef, undef, undef, undef], defers := [] } wx := by
                as_aux_lemma =>
                intro u17 u18 u19 u20 u21 u22 u23 u24 u25 u26 u27 u28 u29 u30 u95 u96 u97 u98 u99 u100 u101 u102 u103 u104 u105 u106 u107 u108 u109 u110 u111 u112 u113 u114 u115 u116 u117 u118 u119 u120 u121 u122 u123 u124 u125 u126 u127 u128 u129 u130 u131 u132 u133 u134 u135 u136 u137 u138 u139 u140 u141 u142 u143 u144 u145 u146 u147 u148 u149 u150 u151 u152 u153 u154 u155 u156 u157 u158 u159 u160 u161 u162 u163 u164 u165 u166 u167 u168 u169 u170 u171 u172 u173 u174 u175 u176 u177 u178 u179 u180 u181 u182 u183 u184 u185 u186 u187 u188 u189 u190 u191 u192 u193 u194 u195 u196 u197 u198 u199 u200 u201 u202 u203 u204 u205 u206 u207 u208 u209 u210 u211 u212 u213 u214 u215 u216 u217 u218 u219 u220 u221 u222 u223 u224 u225 u226 u227 u228 u229 u230 u231 u232 u233 u234 u235 u236 u237 u238 u239 u240 u241 u242 u243 u244 u245 u246 u247 u248 u249 u250 u251 u252 u253 u254 u255 u256 u257 u258 u259 u260 u261 u262 u263 u264 u265 u266 wx cv' zs' O' z' HS
                clear HX
                apply hK
                clear hK
                go_wp2_with fail
                go_loopw [29, 242] (fun zv iv wy => ∃ (s : Nat) (q : Int), s ≤ i ∧ iv = .int .i64 s ∧ zv = .int .i64 q ∧ Hid (q = sumJ (cv'.take s)) ∧ wy = wx) (fun _ iv _ => i - (intOf iv).toNat)
                case atStart => exact ⟨0, 0, by omega, rfl, rfl, Lib.hid rfl, rfl⟩
                case round =>
                  obtain ⟨s, q, hs, rfl, rfl, HQ, rfl⟩ := hrel
                  have hb := sum_bound (cv := cv') (s := s) (fun x hx => ⟨HS.out.lo x hx, by have := HS.out.b x hx; omega⟩) (by rw [HS.out.cl]; exact hs)
                  rw [← HQ.out] at hb
                  obtain ⟨hb0, hb1⟩ := hb
                  by_cases hlt3 : s < i
                  · obtain ⟨v1, hv1⟩ : ∃ v1, cv'[s]? = some v1 := ⟨_, List.getElem?_eq_getElem (by rw [HS.out.cl]; exact hlt3)⟩
                    have k1 := HS.out.x.getC hv1
                    have hm := List.mem_of_getElem? hv1
                    have c0 := HS.out.lo v1 hm
                    have c1 := HS.out.b v1 hm
                    have hst := sum_take (cv := cv') (s := s) (by rw [HS.out.cl]; exact hlt3)
                    rw [← HQ.out, List.getD_eq_getElem?_getD, hv1] at hst
                    have HN := Lib.hid (show q + v1 = sumJ (cv'.take (s + 1)) from hst.symm)
                    clear hv1 hm hst HQ
                    go_wp2_with fail
                    go_roundw
                    case rel => exact ⟨s + 1, q + v1, by omega, by go_num, by go_num, HN, by trivial⟩
                    case measure => simp [intOf]; omega
                  · obtain rfl : i = s := by omega
                    have hq := HQ.out
                    rw [← HS.out.cl, sum_whole] at hq
                    by_cases h0 : q = 0
                    · subst h0
                      have HG := Lib.hid (HS.out.gone hq.symm)
                      clear hq HQ HS hb0 hb1
                      have HK1 := Lib.hid ((HT.out.ids HG.out.ln.d).mono (R' := fun e w' => ∃ a c, e = .returned (.slice a 0 c) ∧ wr.grownBy w' none) fun e w' k => by
                        obtain ⟨u, rfl, hr, -, g⟩ := k
                        obtain ⟨a9, c9, rfl⟩ := rowOf_form hr
                        exact ⟨a9, c9, rfl, g⟩)
                      go_wp2_with fail
                      refine HK1.out.mono ?_
                      rintro e w4 ⟨a9, c9, rfl, g4⟩
                      have H4 := Lib.hid (HG.out.grow HT.out.toStOkA g4)
                      clear g4 HK1 HG
                      have HK2 := Lib.hid (HT.out.slots H4.out.ln.d 1 (okS (by decide) (by decide)))
                      rw [slots_gone] at HK2
                      go_wp2_with fail
                      refine HK2.out.mono ?_
                      rintro e w5 ⟨rfl, g5⟩
                      have H5 := Lib.hid (H4.out.grow HT.out.toStOkA g5)
                      clear g5 HK2 H4
                      go_wp2_with fail
                      refine (HLv.out _).mono ?_
                      rintro e w6 ⟨rfl, g6⟩
                      have HG6 := Lib.hid (grown_trans H5.out.ln.grown g6)
                      clear g6 H5
                      go_wp2_with fail
                      go_ret
                      exact ⟨rfl, HG6.out⟩
                    · have d0 : (q == 0) = false := by simpa using h0
                      replace HS := Lib.hid (HS.out.live (by rw [← hq]; exact h0))
                      clear hq h0 HQ hb0 hb1
                      go_wp2_with fail
                      go_loopw [269] (fun iv wy => ∃ s : Nat, s ≤ i ∧ iv = .int .i64 s ∧ Hid (CovS D w wy p C I i (j + 1) z' cv' zs' O')) (fun iv _ => i - (intOf iv).toNat)
                      case atStart => exact ⟨0, by omega, rfl, HS⟩
                      case round =>
                        clear HS
                        obtain ⟨s, hs, rfl, HY⟩ := hrel
                        by_cases hlt2 : s < i
                        · have hg := HY.out.good HT.out.toStOkA
                          obtain ⟨v1, hv1⟩ : ∃ v1, cv'[s]? = some v1 := ⟨_, List.getElem?_eq_getElem (by rw [HY.out.cl]; exact hlt2)⟩
                          obtain ⟨v2, hv2⟩ : ∃ v2, zs'[s]? = some v2 := ⟨_, List.getElem?_eq_getElem (by rw [HY.out.zl]; exact hlt2)⟩
                          have e1 : coverA [some ⟨cv', zs'⟩] 1 s = v1 := by rw [cover_one hg (by rw [HY.out.cl]; exact hlt2), List.getD_eq_getElem?_getD, hv1]; rfl
                          have e2 : getA [some ⟨cv', zs'⟩] 1 s = v2 := by rw [get_one (by rw [HY.out.zl]; exact hlt2), List.getD_eq_getElem?_getD, hv2]; rfl
                          have E1 := Lib.hid e1
                          have E2 := Lib.hid e2
                          have HB := Lib.hid (HY.out.grow HT.out.toStOkA (grown_drew1 _))
                          have V1 := Lib.hid hv1
                          have V2 := Lib.hid hv2
                          have hkd := And.intro (HB.out.x.getC hv1) (HB.out.x.getI hv2)
                          have q0 : (v1 != v1) = false := by simp
                          have q1 : (v2 != v2) = false := by simp
                          clear e1 e2 hv1 hv2 hg HY
                          go_wp2_with fail
                          go_region_held3 (fun W => W.cell? ⟨C, s, none⟩ = some (.int .i64 v1) ∧ W.cell? ⟨I, s, none⟩ = some (.int .i64 v2)) (first | exact hkd | fail)
                            (first
                              | (go_at_call 25; with_reducible refine ((HT.out.cover HB.out.x.ln.d 1 s (okS (by decide) (by decide)) (okS (by omega) (by omega))).mono ?_); rw [E1.out]; rintro e w9 ⟨rfl, g9⟩; replace HB := Lib.hid (HB.out.grow HT.out.toStOkA g9); replace hkd := And.intro (HB.out.x.getC V1.out) (HB.out.x.getI V2.out); clear g9)
                              | (go_at_call 27; with_reducible refine ((HT.out.get HB.out.x.ln.d 1 s (okS (by decide) (by decide)) (okS (by omega) (by omega))).mono ?_); rw [E2.out]; rintro e w9 ⟨rfl, g9⟩; replace HB := Lib.hid (HB.out.grow HT.out.toStOkA g9); replace hkd := And.intro (HB.out.x.getC V1.out) (HB.out.x.getI V2.out); clear g9)
                              | fail)
                          all_goals
                            go_wp2_with fail
                            go_roundw
                            case rel => exact ⟨s + 1, by omega, by go_num, HB⟩
                            case measure => simp [intOf]; omega
                        · go_wp2_with fail
                          go_roundw
                          case rel => exact ⟨j + 1, cv', zs', O', z', by omega, rfl, by go_num, HY⟩
                          case measure => simp [intOf]; omega
              clear hK
              by_cases k1 : ak = 1
              · subst k1
                as_aux_lemma =>
                obtain ⟨v1, hv1, g1⟩ := HX.out.atC (s := lo) (by omega)
                obtain ⟨v2, hv2, g2⟩ := HX.out.atI (s := lo) (by omega)
                have hg := HX.out.good HT.out.toStOkA
                have hlt9 : lo < cv.length := by rw [HX.out.cl]; omega
                have y0 := HX.out.z0
                have y1 := HX.out.z1
                have hk := HT.out.set HX.out.x.ln.d 1 lo z (okS (by decide) (by decide)) (okS (by omega) (by omega)) (okS (by omega) (by omega))
                have p1 := hg.cs.lo v1 (List.mem_of_getElem? hv1)
                have V1 := Lib.hid hv1
                have V2 := Lib.hid hv2
                by_cases h0 : v1 = 0
                · subst h0
                  rw [set_bare hg hlt9 g1] at hk
                  have HK := Lib.hid hk
                  clear hk hv1 hv2 g1 g2 hg p1
                  go_wp2_with fail
                  refine HK.out.mono ?_
                  rintro e w4 ⟨rfl, h4⟩
                  obtain ⟨O4, h4⟩ := HX.out.same h4
                  have k1 := h4.x.getC V1.out
                  have HF := Lib.hid (h4.next.tail HT.out.toStOkA)
                  clear h4 HK HX
                  go_wp2_with fail
                  first
                    | exact HF
                    | exact tail _ _ _ _ _ _ _ _ _ _ _ _ _ _ _ _ _ _ _ _ _ _ _ _ _ _ _ _ _ _ _ _ _ _ _ _ _ _ _ _ _ _ _ _ _ _ _ _ _ _ _ _ _ _ _ _ _ _ _ _ _ _ _ _ _ _ _ _ _ _ _ _ _ _ _ _ _ _ _ _ _ _ _ _ _ _ _ _ _ _ _ _ _ _ _ _ _ _ _ _ _ _ _ _ _ _ _ _ _ _ _ _ _ _ _ _ _ _ _ _ _ _ _ _ _ _ _ _ _ _ _ _ _ _ _ _ _ _ _ _ _ _ _ _ _ _ _ _ _ _ _ _ _ _ _ _ _ _ _ _ _ _ _ _ _ _ _ _ _ _ _ _ _ _ _ _ _ _ _ _ _ _ _ _ _ _ _ _ _ _ _ HF
                · rw [set_one hg hlt9 (by rw [g1]; exact h0) (by omega), g2] at hk
                  have HK := Lib.hid hk
                  have d1 : decide (v1 > 0) = true := decide_eq_true (by omega)
                  have q0 : (v2 != v2) = false := by simp
                  clear hk hv1 hv2 g1 g2 hg
                  go_wp2_with fail
                  refine HK.out.mono ?_
                  rintro e w4 ⟨rfl, h4⟩
                  obtain ⟨O4, h4⟩ := HX.out.x.left h4
                  have k1 := h4.getC V1.out
                  have k2 := h4.getI V2.out
                  have k3 := h4.frI lo
                  have HF := Lib.hid ((HX.out.put HT.out.toStOkA h4).tail HT.out.toStOkA)
                  clear h4 HK HX
                  go_wp2_with fail
                  first
                    | exact HF
                    | exact tail _ _ _ _ _ _ _ _ _ _ _ _ _ _ _ _ _ _ _ _ _ _ _ _ _ _ _ _ _ _ _ _ _ _ _ _ _ _ _ _ _ _ _ _ _ _ _ _ _ _ _ _ _ _ _ _ _ _ _ _ _ _ _ _ _ _ _ _ _ _ _ _ _ _ _ _ _ _ _ _ _ _ _ _ _ _ _ _ _ _ _ _ _ _ _ _ _ _ _ _ _ _ _ _ _ _ _ _ _ _ _ _ _ _ _ _ _ _ _ _ _ _ _ _ _ _ _ _ _ _ _ _ _ _ _ _ _ _ _ _ _ _ _ _ _ _ _ _ _ _ _ _ _ _ _ _ _ _ _ _ _ _ _ _ _ _ _ _ _ _ _ _ _ _ _ _ _ _ _ _ _ _ _ _ _ _ _ _ _ _ _ HF
              · have n1 : (ak == 1) = false := by simpa using k1
                by_cases k2 : ak = 2
                · subst k2
                  as_aux_lemma =>
                  go_wp2_with fail
                  go_loopw [19, 20] (fun fv sv wy => ∃ (s : Nat) (f : Bool), lo ≤ s ∧ s ≤ hi9 ∧ sv = .int .i64 s ∧ fv = .bool f ∧ Hid (decide (allCov cv lo s) = f) ∧ wy = wB) (fun _ sv _ => hi9 - (intOf sv).toNat)
                  case atStart => exact ⟨lo, true, by omega, by omega, rfl, rfl, Lib.hid (decide_eq_true cov_none), rfl⟩
                  case round =>
                    obtain ⟨s, f, hs0, hs1, rfl, rfl, HFc, rfl⟩ := hrel
                    by_cases hlt2 : s < hi9
                    · obtain ⟨v1, hv1, g1⟩ := HX.out.atC (s := s) (by omega)
                      have k1 := HX.out.x.getC hv1
                      have p1 := (HX.out.good HT.out.toStOkA).cs.lo v1 (List.mem_of_getElem? hv1)
                      have hstep := cov_step (cv := cv) (lo := (lo : Int)) (s := s) (by omega) (by rw [HX.out.cl]; omega)
                      rw [g1] at hstep
                      cases f
                      · have HN := Lib.hid (show decide (allCov cv lo ((s + 1 : Nat) : Int)) = false from decide_eq_false fun k => of_decide_eq_false HFc.out (hstep.1 k).1)
                        clear hv1 g1 hstep k1 HFc p1
                        go_wp2_with fail
                        go_roundw
                        case rel => exact ⟨s + 1, false, by omega, by omega, by go_num, rfl, HN, by trivial⟩
                        case measure => simp [intOf]; omega
                      · have HN := Lib.hid (show decide (allCov cv lo ((s + 1 : Nat) : Int)) = decide (v1 > 0) from decide_eq_decide.2 ⟨fun k => by have := (hstep.1 k).2; omega, fun k => hstep.2 ⟨of_decide_eq_true HFc.out, by omega⟩⟩)
                        clear hv1 g1 hstep HFc
                        go_wp2_with fail
                        go_roundw
                        case rel => exact ⟨s + 1, decide (v1 > 0), by omega, by omega, by go_num, rfl, HN, by trivial⟩
                        case measure => simp [intOf]; omega
                    · obtain rfl : hi9 = s := by omega
                      have hg := HX.out.good HT.out.toStOkA
                      have hk := HT.out.hold HX.out.x.ln.d 1 lo hi9 (okS (by decide) (by decide)) (okS (by omega) (by omega)) (okS (by omega) (by omega))
                      have y1 := HX.out.b
                      by_cases hall : allCov cv lo hi9
                      · obtain rfl : true = f := by rw [← HFc.out]; exact (decide_eq_true hall).symm
                        rw [hold_one hg (fun x hx => by have := y1 x hx; omega) (by omega) (by omega) (by rw [HX.out.cl]; omega) hall] at hk
                        have HK := Lib.hid hk
                        clear hk hg HFc hall y1
                        go_wp2_with fail
                        refine HK.out.mono ?_
                        rintro e w4 ⟨rfl, h4⟩
                        obtain ⟨O4, h4⟩ := HX.out.x.left h4
                        have H4 := Lib.hid (show CovX D w w4 p C I [some ⟨moreJ cv lo hi9 1, zs⟩] O4 (moreJ cv lo lo 1) zs by rw [moreJ_none]; exact h4)
                        clear h4 HK
                        go_wp2_with fail
                        go_loopw [22] (fun sv wy => ∃ s : Nat, lo ≤ s ∧ s ≤ hi9 ∧ sv = .int .i64 s ∧ Hid (CovX D w wy p C I [some ⟨moreJ cv lo hi9 1, zs⟩] O4 (moreJ cv lo s 1) zs)) (fun sv _ => hi9 - (intOf sv).toNat)
                        case atStart => exact ⟨lo, by omega, by omega, rfl, H4⟩
                        case round =>
                          clear H4
                          obtain ⟨s, hs0, hs1, rfl, H4⟩ := hrel
                          by_cases hlt2 : s < hi9
                          · obtain ⟨v1, hv1, g1⟩ := HX.out.atC (s := s) (by omega)
                            have hm := List.mem_of_getElem? hv1
                            have p1 := (HX.out.good HT.out.toStOkA).cs.lo v1 hm
                            have p2 := HX.out.b v1 hm
                            have k1 := H4.out.getC (j := s) (v := v1) (getD_some (by rw [moreJ_len, HX.out.cl]; omega) (by rw [moreJ_here (by rw [HX.out.cl]; omega)]; exact g1))
                            have z1 := H4.out.frC s
                            have hs := H4.out.setC HT.out.toStOkA s (v1 + 1)
                            rw [show (moreJ cv lo s 1).set s (v1 + 1) = moreJ cv lo ((s + 1 : Nat) : Int) 1 by rw [show ((s + 1 : Nat) : Int) = (s : Int) + 1 by omega, moreJ_step (by omega) (by rw [HX.out.cl]; omega), g1]] at hs
                            have HN := Lib.hid hs
                            clear hv1 g1 hm H4 hs
                            go_wp2_with fail
                            go_roundw
                            case rel => exact ⟨s + 1, by omega, by omega, by go_num, HN⟩
                            case measure => simp [intOf]; omega
                          · obtain rfl : hi9 = s := by omega
                            have HF := Lib.hid ((HX.out.held H4.out).tail HT.out.toStOkA)
                            clear H4 HX
                            go_wp2_with fail
                            first
                              | exact HF
                              | exact tail _ _ _ _ _ _ _ _ _ _ _ _ _ _ _ _ _ _ _ _ _ _ _ _ _ _ _ _ _ _ _ _ _ _ _ _ _ _ _ _ _ _ _ _ _ _ _ _ _ _ _ _ _ _ _ _ _ _ _ _ _ _ _ _ _ _ _ _ _ _ _ _ _ _ _ _ _ _ _ _ _ _ _ _ _ _ _ _ _ _ _ _ _ _ _ _ _ _ _ _ _ _ _ _ _ _ _ _ _ _ _ _ _ _ _ _ _ _ _ _ _ _ _ _ _ _ _ _ _ _ _ _ _ _ _ _ _ _ _ _ _ _ _ _ _ _ _ _ _ _ _ _ _ _ _ _ _ _ _ _ _ _ _ _ _ _ _ _ _ _ _ _ _ _ _ _ _ _ _ _ _ _ _ _ _ _ _ _ _ _ _ HF
                      · obtain rfl : false = f := by rw [← HFc.out]; exact (decide_eq_false hall).symm
                        rw [hold_no hall] at hk
                        have HK := Lib.hid hk
                        clear hk hg HFc hall y1
                        go_wp2_with fail
                        refine HK.out.mono ?_
                        rintro e w4 ⟨rfl, h4⟩
                        obtain ⟨O4, h4⟩ := HX.out.same h4
                        have HF := Lib.hid (h4.next.tail HT.out.toStOkA)
                        clear h4 HK HX
                        go_wp2_with fail
                        go_loopw [22] (fun sv wy => sv = .int .i64 lo ∧ wy = w4) (fun _ _ => 0)
                        case atStart => exact ⟨rfl, rfl⟩
                        case round =>
                          obtain ⟨rfl, rfl⟩ := hrel
                          go_wp2_with fail
                          first
                            | exact HF
                            | exact tail _ _ _ _ _ _ _ _ _ _ _ _ _ _ _ _ _ _ _ _ _ _ _ _ _ _ _ _ _ _ _ _ _ _ _ _ _ _ _ _ _ _ _ _ _ _ _ _ _ _ _ _ _ _ _ _ _ _ _ _ _ _ _ _ _ _ _ _ _ _ _ _ _ _ _ _ _ _ _ _ _ _ _ _ _ _ _ _ _ _ _ _ _ _ _ _ _ _ _ _ _ _ _ _ _ _ _ _ _ _ _ _ _ _ _ _ _ _ _ _ _ _ _ _ _ _ _ _ _ _ _ _ _ _ _ _ _ _ _ _ _ _ _ _ _ _ _ _ _ _ _ _ _ _ _ _ _ _ _ _ _ _ _ _ _ _ _ _ _ _ _ _ _ _ _ _ _ _ _ _ _ _ _ _ _ _ _ _ _ _ _ HF
                · have n2 : (ak == 2) = false := by simpa using k2
                  by_cases k3 : ak = 3
                  · subst k3
                    as_aux_lemma =>
                    go_wp2_with fail
                    go_loopw [23, 24] (fun fv sv wy => ∃ (s : Nat) (f : Bool), lo ≤ s ∧ s ≤ hi9 ∧ sv = .int .i64 s ∧ fv = .bool f ∧ Hid (decide (allCov cv lo s) = f) ∧ wy = wB) (fun _ sv _ => hi9 - (intOf sv).toNat)
                    case atStart => exact ⟨lo, true, by omega, by omega, rfl, rfl, Lib.hid (decide_eq_true cov_none), rfl⟩
                    case round =>
                      obtain ⟨s, f, hs0, hs1, rfl, rfl, HFc, rfl⟩ := hrel
                      by_cases hlt2 : s < hi9
                      · obtain ⟨v1, hv1, g1⟩ := HX.out.atC (s := s) (by omega)
                        have k1 := HX.out.x.getC hv1
                        have p1 := (HX.out.good HT.out.toStOkA).cs.lo v1 (List.mem_of_getElem? hv1)
                        have hstep := cov_step (cv := cv) (lo := (lo : Int)) (s := s) (by omega) (by rw [HX.out.cl]; omega)
                        rw [g1] at hstep
                        cases f
                        · have HN := Lib.hid (show decide (allCov cv lo ((s + 1 : Nat) : Int)) = false from decide_eq_false fun k => of_decide_eq_false HFc.out (hstep.1 k).1)
                          clear hv1 g1 hstep k1 HFc p1
                          go_wp2_with fail
                          go_roundw
                          case rel => exact ⟨s + 1, false, by omega, by omega, by go_num, rfl, HN, by trivial⟩
                          case measure => simp [intOf]; omega
                        · have HN := Lib.hid (show decide (allCov cv lo ((s + 1 : Nat) : Int)) = decide (v1 > 0) from decide_eq_decide.2 ⟨fun k => by have := (hstep.1 k).2; omega, fun k => hstep.2 ⟨of_decide_eq_true HFc.out, by omega⟩⟩)
                          clear hv1 g1 hstep HFc
                          go_wp2_with fail
                          go_roundw
                          case rel => exact ⟨s + 1, decide (v1 > 0), by omega, by omega, by go_num, rfl, HN, by trivial⟩
                          case measure => simp [intOf]; omega
                      · obtain rfl : hi9 = s := by omega
                        have hg := HX.out.good HT.out.toStOkA
                        have hk := HT.out.drop HX.out.x.ln.d 1 lo hi9 (okS (by decide) (by decide)) (okS (by omega) (by omega)) (okS (by omega) (by omega))
                        by_cases hall : allCov cv lo hi9
                        · obtain rfl : true = f := by rw [← HFc.out]; exact (decide_eq_true hall).symm
                          rw [drop_one hg (by omega) (by omega) (by rw [HX.out.cl]; omega) hall] at hk
                          have HM := Lib.hid ((may_less hg.cs (show (0 : Int) ≤ lo by omega) (show (lo : Int) ≤ hi9 by omega) (by show (hi9 : Int) ≤ cv.length; rw [HX.out.cl]; omega)).2 hall)
                          have HAll := Lib.hid hall
                          have hOl : (outA zs (goneJ cv lo hi9 (-1))).length ≤ 4096 := Nat.le_trans out_len9 (Nat.le_trans (goneJ_len _ _ _ _) (by rw [HX.out.cl]; omega))
                          obtain ⟨OUT, hOUT⟩ : ∃ OUT, outA zs (goneJ cv lo hi9 (-1)) = OUT := ⟨_, rfl⟩
                          obtain ⟨L9, hL9⟩ : ∃ L9 : AmL, [if sumJ (moreJ cv lo hi9 (-1)) = 0 then none else some (AmV.mk (moreJ cv lo hi9 (-1)) (wipeA zs (goneJ cv lo hi9 (-1))))] = L9 := ⟨_, rfl⟩
                          rw [hOUT, hL9] at hk
                          rw [hOUT] at hOl
                          have HO := Lib.hid hOUT
                          have HL9 := Lib.hid hL9
                          have HK := Lib.hid hk
                          clear hk hg HFc hall hOUT hL9
                          go_wp2_with fail
                          refine HK.out.mono ?_
                          rintro e w4 ⟨u4, rfl, r4, o4, h4⟩
                          obtain ⟨s4, c4, rfl⟩ := rowOf_form r4
                          obtain ⟨O4, h4⟩ := HX.out.x.left h4
                          have i1 := HX.out.x.cl.2
                          have i2 := HX.out.x.il.2
                          have H4 := Lib.hid (show DrX D w w4 w4 p C I L9 O4 (moreJ cv lo lo (-1)) (wipeA zs (goneJ cv lo lo (-1))) (.slice none 0 0) (outA zs (goneJ cv lo lo (-1))) (.slice s4 OUT.length c4) OUT by rw [moreJ_none, goneJ_none]; exact DrX.start HT.out.toStOkA h4 r4 (fun b e => by have := o4 b e; exact ⟨by omega, by omega⟩))
                          clear h4 HK r4 o4 i1 i2
                          go_wp2_with fail
                          go_loopw [27, 28] (fun wv sv wy => ∃ s : Nat, lo ≤ s ∧ s ≤ hi9 ∧ sv = .int .i64 s ∧ Hid (DrX D w w4 wy p C I L9 O4 (moreJ cv lo s (-1)) (wipeA zs (goneJ cv lo s (-1))) wv (outA zs (goneJ cv lo s (-1))) (.slice s4 OUT.length c4) OUT)) (fun _ sv _ => hi9 - (intOf sv).toNat)
                          case atStart => exact ⟨lo, by omega, by omega, rfl, H4⟩
                          case round =>
                            clear H4
                            obtain ⟨s, hs0, hs1, rfl, H4⟩ := hrel
                            by_cases hlt2 : s < hi9
                            · obtain ⟨v1, hv1, g1⟩ := HX.out.atC (s := s) (by omega)
                              obtain ⟨v2, hv2, g2⟩ := HX.out.atI (s := s) (by omega)
                              have hgd := HX.out.good HT.out.toStOkA
                              have p1 := hgd.cs.lo v1 (List.mem_of_getElem? hv1)
                              have p2 := HX.out.b v1 (List.mem_of_getElem? hv1)
                              have p3 := hgd.as0 v2 (List.mem_of_getElem? hv2)
                              have hcl : s < cv.length := by rw [HX.out.cl]; omega
                              have hzl : s < zs.length := by rw [HX.out.zl]; omega
                              have p0 : v1 ≠ 0 := by rw [← g1]; exact HAll.out s hcl ⟨by omega, by omega⟩
                              have k1 := H4.out.x.getC (j := s) (v := v1) (getD_some (by rw [moreJ_len]; exact hcl) (by rw [drop_here hcl]; exact g1))
                              have z1 := H4.out.x.frC s
                              have hcast : ((s + 1 : Nat) : Int) = (s : Int) + 1 := by omega
                              have hset := drop_cover (cs := cv) (lo := (lo : Int)) (i := s) (by omega) hcl
                              rw [g1] at hset
                              by_cases h1 : v1 = 1
                              · subst h1
                                have hS := H4.out.setC HT.out.toStOkA s 0
                                rw [show (moreJ cv lo s (-1)).set s 0 = moreJ cv lo ((s + 1 : Nat) : Int) (-1) by rw [hcast]; exact hset] at hS
                                have k2 := hS.x.getC (j := s) (v := 0) (getD_some (by rw [moreJ_len]; exact hcl) (by rw [moreJ_at hcl, if_pos ⟨by omega, by omega⟩, g1]; rfl))
                                have k3 := hS.x.getI (j := s) (v := v2) (getD_some (by rw [wipe_len]; exact hzl) (by rw [drop_in hcl]; exact g2))
                                have z3 := hS.x.frI s
                                have hw := drop_wiped (cs := cv) («as» := zs) (lo := (lo : Int)) (i := s) (by omega) hcl (by rw [g1]; rfl)
                                have ho := drop_out (cs := cv) («as» := zs) (lo := (lo : Int)) (i := s) (by omega) hcl (by rw [g1]; rfl)
                                rw [g2, ← hcast] at ho
                                rw [← hcast] at hw
                                by_cases h2 : v2 = 0
                                · subst h2
                                  rw [if_neg (by omega), List.append_nil] at ho
                                  have hN := hS.setI HT.out.toStOkA s 0
                                  rw [← hw, ← ho] at hN
                                  have HN := Lib.hid hN
                                  clear hv1 hv2 g1 g2 hgd hset hcast hS hw ho hN H4
                                  go_wp2_with fail
                                  go_roundw
                                  case rel => exact ⟨s + 1, by omega, by omega, by go_num, HN⟩
                                  case measure => simp [intOf]; omega
                                · have d2 : decide (v2 > 0) = true := decide_eq_true (by omega)
                                  rw [if_pos h2] at ho
                                  have hZl : (outA zs (goneJ cv lo s (-1))).length ≤ 4096 := Nat.le_trans out_len9 (Nat.le_trans (goneJ_len _ _ _ _) (by rw [HX.out.cl]; omega))
                                  obtain ⟨Z, hZ⟩ : ∃ Z, outA zs (goneJ cv lo s (-1)) = Z := ⟨_, rfl⟩
                                  rw [hZ] at hS ho hZl
                                  obtain ⟨sa, sc, hu⟩ := OwnOf.form hS.own
                                  subst hu
                                  have HSd := Lib.hid hS
                                  have hlast : ∀ (g9 c9 : Nat) (w9 : World), ZOwn w9 w4.heap.size (.slice (some ⟨g9, 0, none⟩) (Z.length + 1) c9) (Z ++ [v2]) → ((wr.setCell ⟨C, s, none⟩ (.int .i64 0)).alloc (.cells #[.int .i64 v2] 3)).grownBy w9 (Value.slice sa Z.length sc).ownBlock → w9.cell? ⟨I, s, none⟩ = some (.int .i64 v2) ∧ w9.frozen? ⟨I, s, none⟩ = false ∧ DrX D w w4 (w9.setCell ⟨I, s, none⟩ (.int .i64 0)) p C I L9 O4 (moreJ cv lo ((s + 1 : Nat) : Int) (-1)) (wipeA zs (goneJ cv lo ((s + 1 : Nat) : Int) (-1))) (.slice (some ⟨g9, 0, none⟩) (Z.length + 1) c9) (outA zs (goneJ cv lo ((s + 1 : Nat) : Int) (-1))) (.slice s4 OUT.length c4) OUT := by
                                    intro g9 c9 w9 hown9 hgrow9
                                    have h9 := hS.app HT.out.toStOkA hgrow9 hown9
                                    refine ⟨h9.x.getI (j := s) (v := v2) (getD_some (by rw [wipe_len]; exact hzl) (by rw [drop_in hcl]; exact g2)), h9.x.frI s, ?_⟩
                                    rw [hw, ho]
                                    exact h9.setI HT.out.toStOkA s 0
                                  have HL := Lib.hid hlast
                                  clear hv1 hv2 g1 g2 hgd hset hcast hS hw ho hlast H4 hZ z3
                                  go_wp2_with (at_builtin; refine wpList_zpush (wr.setCell ⟨C, s, none⟩ (.int .i64 0)) rfl _ _ rfl w4.heap.size (.slice sa Z.length sc) Z v2 rfl HSd.out.own wr.heap.size 1 rfl (by simp) (by omega) (by have := HSd.out.sz; simpa using this) ?_; intro g9 c9 w9 hown9 hgrow9; obtain ⟨b2, b3, hm9⟩ := HL.out g9 c9 w9 hown9 hgrow9; have HN := Lib.hid hm9; clear hown9 hgrow9 hm9)
                                  go_roundw
                                  case rel => exact ⟨s + 1, by omega, by omega, by go_num, HN⟩
                                  case measure => simp [intOf]; omega
                              · have hS := H4.out.setC HT.out.toStOkA s (v1 - 1)
                                rw [show (moreJ cv lo s (-1)).set s (v1 - 1) = moreJ cv lo ((s + 1 : Nat) : Int) (-1) by rw [hcast]; exact hset] at hS
                                have k2 := hS.x.getC (j := s) (v := v1 - 1) (getD_some (by rw [moreJ_len]; exact hcl) (by rw [moreJ_at hcl, if_pos ⟨by omega, by omega⟩, g1]; rfl))
                                rw [← drop_stays (cs := cv) (lo := (lo : Int)) (i := s) (by omega) hcl (by rw [g1]; omega), ← hcast] at hS
                                have HN := Lib.hid hS
                                have d1 : (v1 - 1 == 0) = false := by simp; omega
                                clear hv1 hv2 g1 g2 hgd hset hcast hS H4
                                go_wp2_with fail
                                go_roundw
                                case rel => exact ⟨s + 1, by omega, by omega, by go_num, HN⟩
                                case measure => simp [intOf]; omega
                            · obtain rfl : hi9 = s := by omega
                              rw [HO.out] at H4
                              obtain ⟨sa, sc, hu⟩ := OwnOf.form H4.out.own
                              subst hu
                              have HI := Lib.hid (ints_ok c4 sc H4.out.row (OwnOf.row H4.out.own) (by omega) true (by simp))
                              go_wp2_with fail
                              refine HI.out.mono ?_
                              rintro e w6 ⟨rfl, g6⟩
                              have HF := Lib.hid (HX.out.dropped HT.out.toStOkA HM.out (by rw [HL9.out]; exact H4.out.x.grow HT.out.toStOkA g6))
                              clear H4 HX HI g6
                              go_wp2_with fail
                              first
                                | exact HF
                                | exact tail _ _ _ _ _ _ _ _ _ _ _ _ _ _ _ _ _ _ _ _ _ _ _ _ _ _ _ _ _ _ _ _ _ _ _ _ _ _ _ _ _ _ _ _ _ _ _ _ _ _ _ _ _ _ _ _ _ _ _ _ _ _ _ _ _ _ _ _ _ _ _ _ _ _ _ _ _ _ _ _ _ _ _ _ _ _ _ _ _ _ _ _ _ _ _ _ _ _ _ _ _ _ _ _ _ _ _ _ _ _ _ _ _ _ _ _ _ _ _ _ _ _ _ _ _ _ _ _ _ _ _ _ _ _ _ _ _ _ _ _ _ _ _ _ _ _ _ _ _ _ _ _ _ _ _ _ _ _ _ _ _ _ _ _ _ _ _ _ _ _ _ _ _ _ _ _ _ _ _ _ _ _ _ _ _ _ _ _ _ _ _ HF
                        · obtain rfl : false = f := by rw [← HFc.out]; exact (decide_eq_false hall).symm
                          rw [drop_bare hg (by omega) (by omega) (by rw [HX.out.cl]; omega) hall] at hk
                          have HK := Lib.hid hk
                          clear hk hg HFc hall
                          go_wp2_with fail
                          refine HK.out.mono ?_
                          rintro e w4 ⟨u4, rfl, r4, o4, h4⟩
                          obtain ⟨s4, c4, rfl⟩ := rowOf_form r4
                          have hi := ints_ok (w := w4) (s := s4) (s' := none) (xs := []) (ys := []) c4 0 r4 (RowAt.nil _ _) (by decide) true (by simp)
                          simp only [List.length_nil] at hi ⊢
                          have HI := Lib.hid hi
                          obtain ⟨O4, h4⟩ := HX.out.same h4
                          have H4 := Lib.hid h4
                          clear h4 HK HX r4 o4 hi
                          go_wp2_with fail
                          go_loopw [27, 28] (fun wv sv wy => wv = .slice none 0 0 ∧ sv = .int .i64 lo ∧ wy = w4) (fun _ _ _ => 0)
                          case atStart => exact ⟨rfl, rfl, rfl⟩
                          case round =>
                            obtain ⟨rfl, rfl, rfl⟩ := hrel
                            go_wp2_with fail
                            refine HI.out.mono ?_
                            rintro e w6 ⟨rfl, g6⟩
                            have HF := Lib.hid ((H4.out.grow HT.out.toStOkA g6).next.tail HT.out.toStOkA)
                            clear H4 HI g6
                            go_wp2_with fail
                            first
                              | exact HF
                              | exact tail _ _ _ _ _ _ _ _ _ _ _ _ _ _ _ _ _ _ _ _ _ _ _ _ _ _ _ _ _ _ _ _ _ _ _ _ _ _ _ _ _ _ _ _ _ _ _ _ _ _ _ _ _ _ _ _ _ _ _ _ _ _ _ _ _ _ _ _ _ _ _ _ _ _ _ _ _ _ _ _ _ _ _ _ _ _ _ _ _ _ _ _ _ _ _ _ _ _ _ _ _ _ _ _ _ _ _ _ _ _ _ _ _ _ _ _ _ _ _ _ _ _ _ _ _ _ _ _ _ _ _ _ _ _ _ _ _ _ _ _ _ _ _ _ _ _ _ _ _ _ _ _ _ _ _ _ _ _ _ _ _ _ _ _ _ _ _ _ _ _ _ _ _ _ _ _ _ _ _ _ _ _ _ _ _ _ _ _ _ _ _ HF
                  · have n3 : (ak == 3) = false := by simpa using k3
                    have HF := Lib.hid (HX.out.next.tail HT.out.toStOkA)
                    clear HX
                    go_wp2_with fail
                    first
                      | exact HF
                      | exact tail _ _ _ _ _ _ _ _ _ _ _ _ _ _ _ _ _ _ _ _ _ _ _ _ _ _ _ _ _ _ _ _ _ _ _ _ _ _ _ _ _ _ _ _ _ _ _ _ _ _ _ _ _ _ _ _ _ _ _ _ _ _ _ _ _ _ _ _ _ _ _ _ _ _ _ _ _ _ _ _ _ _ _ _ _ _ _ _ _ _ _ _ _ _ _ _ _ _ _ _ _ _ _ _ _ _ _ _ _ _ _ _ _ _ _ _ _ _ _ _ _ _ _ _ _ _ _ _ _ _ _ _ _ _ _ _ _ _ _ _ _ _ _ _ _ _ _ _ _ _ _ _ _ _ _ _ _ _ _ _ _ _ _ _ _ _ _ _ _ _ _ _ _ _ _ _ _ _ _ _ _ _ _ _ _ _ _ _ _ _ _ HF
            · obtain rfl : l = j := by omega
              have HK1 := Lib.hid ((HT.out.ids HC.out.x.ln.d).mono (R' := fun e w' => ∃ a c, e = .returned (.slice a 1 c) ∧ wr.grownBy w' none) fun e w' k => by
                obtain ⟨u, rfl, hr, -, g⟩ := k
                obtain ⟨a9, c9, rfl⟩ := rowOf_form hr
                exact ⟨a9, c9, rfl, g⟩)
              go_wp2_with fail
              refine HK1.out.mono ?_
              rintro e w4 ⟨a9, c9, rfl, g4⟩
              have H4 := Lib.hid (grown_trans HC.out.x.ln.grown g4)
              clear g4 HK1
              go_wp2_with fail
              refine (HLv.out _).mono ?_
              rintro e w6 ⟨rfl, g6⟩
              have HG6 := Lib.hid (grown_trans H4.out g6)
              clear g6 H4
              go_wp2_with fail
              go_ret
              exact ⟨rfl, HG6.out⟩
  · have d60 : decide ((l : Int) > 80) = true := decide_eq_true (by omega)
    clear H hA hl60
    go_enter Try.func4, Try.ntmps4
    go_wp2_with fail
    refine HN.out.mono ?_
    rintro e w1 ⟨p, O, rfl, h1, g1, o1⟩
    have H1 := Lib.hid (show LA D w w1 p 1 [] O from ⟨h1, o1, g1⟩)
    clear h1 g1 o1 HN
    have hk := HT.out.make H1.out.d (n : Int) (okS (by omega) (by omega))
    rw [make_one hn1 (by omega)] at hk
    have HK := Lib.hid hk
    clear hk
    go_wp2_with fail
    refine HK.out.mono ?_
    rintro e w2 ⟨rfl, h2⟩
    obtain ⟨O2, h2, -, -⟩ := H1.out.left h2
    have H2 := Lib.hid h2
    clear h2 HK H1 hq1 hq2
    go_wp2_with fail
    refine (HLv.out _).mono ?_
    rintro e w6 ⟨rfl, g6⟩
    have HG := Lib.hid (grown_trans H2.out.grown g6)
    clear g6
    go_wp2_with fail
    go_ret
    exact ⟨rfl, HG.out⟩
theorem covers_done13 (w : World) (a : Int) (sa : Option Addr) (l c : Nat) (As : List AActV) (hA : AActsAre w sa l As) (ha : okU a) :
    Calls Try.prog 4 #[.int .u64 a, .slice sa l c] w fun e w' => e = .returned (.bool true) ∧ w.grownBy w' none :=
  covers_walk13 amOk w a sa l c As hA ha
end Go.Proofs.Ytfmihbiongnpnaa
