/- AmapActs, walked out of what package amap says, beside the document's own amaps. Written by wip/genaacts13.py. -/
import Derived.Test.YtfmihbiongnpnaaAActs
import Derived.OwnWalk
import Derived.Deep.CutBlock
import Derived.Deep.DeepCutAuto
namespace Go.Proofs.Ytfmihbiongnpnaa
open Go.ChangeShapes Go.WideShapes Go.ChangeAt Go.RowKit Go.Deep
set_option linter.unusedVariables false
set_option linter.unusedSimpArgs false

/-- 'append(l, a, b)', of numbers. -/
theorem wpList_ztwo {ops : Array Oper} {rest : List Oper} {o : Oper} {a : Act} {Q : Exit → Act → World → Prop} (w : World) (hgd : o.guard = none) (s x : Operand)
    (ho : o.op = .call { callee := .builtin .append, args := #[s, x], argTypes := #[39, 39] }) (base : Nat) (v : Value) (xs : List Int) (y z : Int) (hs : a.eval s = v) (h : ZOwn w base v xs) (H c : Nat)
    (hx : a.eval x = .slice (some ⟨H, 0, none⟩) 2 c) (hH : w.heap.size = H) (hl : xs.length ≤ 1000000) (hbase : base ≤ H)
    (hK : ∀ g cap w', ZOwn w' base (.slice (some ⟨g, 0, none⟩) (xs.length + 2) cap) (xs ++ [y, z]) → (w.alloc (.cells #[.int .i64 y, .int .i64 z] 3)).grownBy w' v.ownBlock → wpList Try.prog ops Q rest (a.put o.dst (.slice (some ⟨g, 0, none⟩) (xs.length + 2) cap)) w') :
    wpList Try.prog ops Q (o :: rest) a (w.alloc (.cells #[.int .i64 y, .int .i64 z] 3)) := by
  obtain ⟨i0, hi, hz0, hz1, hz2⟩ := info_parts info_int11
  subst hH
  refine wpList_append_lies _ hgd s x 39 ho base 3 i0 (.int .i64 0) 1 8 Try.underlying39 hi hz0 hz1 hz2 rfl (by decide) v xs.length (xs.flatMap zCells) hs (World.ownsRow.alloc h _) ⟨w.heap.size, 0, none⟩ 2 c [.int .i64 y, .int .i64 z] hx rfl ?_ ?_ (by omega) (by unfold maxLen; omega) (by omega) (by simp; omega) (w.heap.size + 1) (by simp) ?_
  · exact World.news_of_block (heap_alloc_new w _)
  · intro u hu; simp at hu; rcases hu with rfl | rfl <;> rfl
  · intro g cap w' hown hgrow hat hlt
    refine hK g cap w' ?_ hgrow
    unfold ZOwn OwnOf
    simp only [List.length_append, List.length_cons, List.length_nil, List.flatMap_append, List.flatMap_cons, List.flatMap_nil, List.append_nil]
    exact hown
/-- Behind an append to a row of the law's own: all stays. -/
theorem AXA.app {D : World → Nat → Nat → AmL → List Nat → Prop} (H : StOkA D) {w w4 wr w9 : World} {p q m y : Nat} {L M : AmL} {O P : List Nat} {A : AActV} {v : Value} {o : Obj} {xs : List Int} (h0 : AXA D w w4 p q m L M O P y A) (h : AXA D w wr p q m L M O P y A) (hm : ZMk w4 wr v xs) (k : (wr.alloc o).grownBy w9 v.ownBlock) : AXA D w w9 p q m L M O P y A := by
  have ga := World.grownBy_alloc wr o none
  have hv : ∀ b, v.ownBlock = some b → w4.heap.size ≤ b := fun b e => (OwnOf.lt hm.own e).1
  have hsz := hm.grown.size
  have hs := Nat.le_trans ga.size k.size
  have hb : ∀ b, b < w4.heap.size → w9.heap[b]? = wr.heap[b]? := fun b hb => (k.block b (Nat.lt_of_lt_of_le (Nat.lt_of_lt_of_le hb hsz) ga.size) fun e => by have := hv b e.symm; omega).trans (ga.block b (Nat.lt_of_lt_of_le hb hsz) (by simp))
  have hg : ∀ {w : World}, w.grownBy wr none → w.heap.size ≤ w4.heap.size → w.grownBy w9 none := fun g0 hw => grown_own (grown_trans g0 ga) k fun x e => Nat.le_trans hw (hv x e)
  exact ⟨⟨⟨H.kept h.two.one.d hs fun b hm => hb b (H.lt h0.two.one.d b hm), h.two.one.own, hg h.two.one.grown h0.two.one.grown.size⟩, ⟨rdsOk.kept h.two.two.d hs fun b hm => hb b (rdsOk.lt h0.two.two.d b hm), h.two.two.own, hg h.two.two.grown h0.two.two.grown.size⟩, h.two.ap⟩, (hb y h0.b.lt).trans h.b, h.yn, h.yq⟩
theorem out_len {zs gs : List Int} : (outA zs gs).length ≤ gs.length := by
  unfold outA
  refine Nat.le_trans (List.length_filter_le _ _) ?_
  rw [List.length_map]
  exact Nat.le_refl _
theorem drop_len {L : AmL} {m : Nat} (h : GoodL m L) {id lo hi : Int} : (dropA L id lo hi).l.length ≤ 4096 := by
  unfold dropA
  split
  · exact Nat.zero_le _
  · rename_i a ha
    split
    · have hg := ofA_good h ha
      have h1 := goneJ_len a.cs lo hi (-1)
      have h2 := hg.cs.len
      have h3 := out_len (zs := a.as) (gs := goneJ a.cs lo hi (-1))
      show (outA _ _).length ≤ 4096
      omega
    · exact Nat.zero_le _
theorem copy_len {L : AmL} {m n : Nat} (h : GoodL m L) {id lo hi : Int} : (copyA n L id lo hi).l.length ≤ 4096 := by
  unfold copyA
  split
  · exact Nat.zero_le _
  · rename_i a ha
    split
    · split
      · exact Nat.zero_le _
      · have hg := ofA_good h ha
        have h2 := hg.cs.len
        have h3 := hg.len
        show ((partA _ _ _).filter _).length ≤ 4096
        refine Nat.le_trans (List.length_filter_le _ _) ?_
        unfold partA
        rw [List.length_take, List.length_drop]
        omega
    · exact Nat.zero_le _

set_option maxRecDepth 100000 in
set_option maxHeartbeats 16000000 in
theorem acts_walk13 {D : World → Nat → Nat → AmL → List Nat → Prop} (H : AmOk D) (hU : ∀ (w : World) (p m : Nat) (L : AmL) (O : List Nat) (id look m2 : Int), D w p m L O → okI id → okI look → IntKind.i64.wrap (2 * look) = m2 → Calls Try.prog 31 #[.pointer (some ⟨p, 0, none⟩), .int .i64 id, .int .i64 look] w fun e w' => ∃ u, e = .returned u ∧ RowOf zCells 1 w' u (cutU look m2 (usedA (anonsA L id))) ∧ (∀ b, u.ownBlock = some b → w.heap.size ≤ b) ∧ w.grownBy w' none) (w : World) (n0 : Int) (sa : Option Addr) (l c : Nat) (As : List AActV) (look : Int) (hA : AActsAre w sa l As) (hn : okI n0) (hk0 : okI look) :
    Calls Try.prog 3 #[.int .i64 n0, .slice sa l c, .int .i64 look] w fun e w' => e = .returned (.bool true) ∧ w.grownBy w' none := by
  have HLv := Lib.hid (fun wx => lives13 H wx)
  have HT := Lib.hid H
  have HUs := Lib.hid hU
  have q1 := eqlA_nil
  have q2 := eqlA_none
  have q3 := eqlQ_nil
  have q4 := eqlQ_none
  have HA := Lib.hid hA
  have HLk := Lib.hid hk0
  obtain ⟨m2, hm2⟩ : ∃ m2, IntKind.i64.wrap (2 * look) = m2 := ⟨_, rfl⟩
  have HM2 := Lib.hid hm2
  clear hU hk0
  by_cases hl60 : l ≤ 80
  · have d60 : decide ((l : Int) > 80) = false := decide_eq_false (by omega)
    clear H hA
    go_enter Try.func3, Try.ntmps3
    go_wp2_with fail
    go_loopw [42] (fun iv wr => ∃ j : Nat, j ≤ l ∧ iv = .int .i64 j ∧ Hid (w.grownBy wr none)) (fun iv _ => l - (intOf iv).toNat)
    case atStart => exact ⟨0, by omega, rfl, grown_refl _ _⟩
    case round =>
      obtain ⟨j, hj, rfl, HG⟩ := hrel
      by_cases hlt : j < l
      · obtain ⟨A, hAj⟩ : ∃ A, As[j]? = some A := ⟨_, List.getElem?_eq_getElem (by rw [HA.out.len]; exact hlt)⟩
        obtain ⟨b, o, hs, a0, a1, a2, a3⟩ := HA.out.at HG.out hAj
        subst hs
        have ga := World.grownBy_alloc wr (.cells #[.int .i64 A.k, .int .i64 A.id, .int .i64 A.a, .int .i64 A.b] 25 (0, 0)) none
        obtain ⟨b0, b1, b2, b3⟩ := (AActB.new wr A).at
        have HGb := Lib.hid (grown_trans HG.out ga)
        obtain ⟨ak, ai, aa, ab⟩ := A
        simp only at a0 a1 a2 a3 b0 b1 b2 b3 HGb
        generalize hwB : wr.alloc (.cells #[.int .i64 ak, .int .i64 ai, .int .i64 aa, .int .i64 ab] 25 (0, 0)) = wB at *
        clear hAj HG ga
        by_cases hbad : ak = 0 ∧ ab > 200 ∧ ab ≤ 4096
        · obtain ⟨rfl, h1, h2⟩ := hbad
          go_wp2_with fail
          refine (HLv.out _).mono ?_
          rintro e w6 ⟨rfl, g6⟩
          have HG6 := Lib.hid (grown_trans HGb.out g6)
          clear g6
          go_wp2_with fail
          go_ret
          exact ⟨rfl, HG6.out⟩
        · have dd : (ak == 0) = false ∨ ((ak == 0) = true ∧ decide (ab > 200) = false) ∨ ((ak == 0) = true ∧ decide (ab > 200) = true ∧ decide (ab ≤ 4096) = false) := by
            by_cases e0 : ak = 0
            · by_cases e1 : ab > 200
              · exact .inr (.inr ⟨by simp [e0], decide_eq_true e1, decide_eq_false fun e2 => hbad ⟨e0, e1, e2⟩⟩)
              · exact .inr (.inl ⟨by simp [e0], decide_eq_false e1⟩)
            · exact .inl (by simpa using e0)
          clear hbad
          rcases dd with d0 | ⟨d0, d1⟩ | ⟨d0, d1, d2⟩
          all_goals
            go_wp2_with fail
            go_roundw
            case rel => exact ⟨j + 1, by omega, by go_num, HGb⟩
            case measure => simp [intOf]; omega
      · obtain rfl : j = l := by omega
        by_cases hs : 0 ≤ n0 ∧ n0 ≤ 4096
        · obtain ⟨n, rfl⟩ := Int.eq_ofNat_of_zero_le hs.1
          have hn4 : n ≤ 4096 := by omega
          have HN := Lib.hid (fun wx => HT.out.new n wx hn4)
          have HR0 := Lib.hid (fun wx => ra_new n wx hn4)
          clear hs hn
          go_wp2_with fail
          refine (HN.out _).mono ?_
          rintro e w2 ⟨p, O, rfl, h2, g2, o2⟩
          have H2 := Lib.hid (show LA D w w2 p n [] O from LA.new h2 HG.out g2 o2)
          clear h2 g2 o2 HN HG
          go_wp2_with fail
          refine (HR0.out _).mono ?_
          rintro e w3 ⟨rfl, h3, g3⟩
          have HD := Lib.hid (TwoA.make HT.out.toStOkA rdsOk H2.out g3 (show RDS w3 w2.heap.size n [] (blkA w2.heap.size (.slice none 0 0) [] S0) from ⟨_, _, h3, GoodL.new hn4, rfl⟩) (fun b hb => by
            rcases mem_blkA.1 hb with e | e | e
            · omega
            · cases e
            · cases e))
          clear h3 g3 HR0 H2
          generalize w2.heap.size = q at *
          generalize blkA q (.slice none 0 0) [] S0 = P at *
          go_wp2_with fail
          clear q1 q2 q3 q4
          go_loopw [75] (fun iv wr => ∃ (j' : Nat) (L : AmL) (O P : List Nat), j' ≤ j ∧ iv = .int .i64 j' ∧ Hid (TwoA D RDS w wr p n L O q n L P)) (fun iv _ => j - (intOf iv).toNat)
          case atStart => exact ⟨0, [], O, P, by omega, rfl, HD⟩
          case round =>
            clear HD
            obtain ⟨j2, L, O, P, hj2, rfl, HJ⟩ := hrel
            by_cases hlt2 : j2 < j
            · obtain ⟨A, hAj⟩ : ∃ A, As[j2]? = some A := ⟨_, List.getElem?_eq_getElem (by rw [HA.out.len]; exact hlt2)⟩
              have hmem := List.mem_of_getElem? hAj
              have HOk := Lib.hid (HA.out.ok A hmem)
              obtain ⟨b, o, hs, a0, a1, a2, a3⟩ := HA.out.at HJ.out.one.grown hAj
              subst hs
              have HR := Lib.hid (AXA.new HT.out.toStOkA HJ.out A)
              clear hAj hmem
              obtain ⟨ak, ai, aa, ab⟩ := A
              simp only at a0 a1 a2 a3 HR
              generalize hwB : wr.alloc (.cells #[.int .i64 ak, .int .i64 ai, .int .i64 aa, .int .i64 ab] 25 (0, 0)) = wB at *
              obtain ⟨b0, b1, b2, b3⟩ := HR.out.b.at
              simp only at b0 b1 b2 b3
              clear HJ
              generalize hY : wr.heap.size = Y at *
              go_upto_block 4 with fail
              clear a0 a1 a2 a3 hwB
              rename_i K hK
              have tail : ∀ (u14 u15 u16 u17 u18 u19 u20 u21 u22 u23 u24 u25 u26 u27 u28 u29 u30 u31 u81 u82 u83 u84 u85 u86 u87 u88 u89 u90 u91 u92 u93 u94 u95 u96 u97 u98 u99 u100 u101 u102 u103 u104 u105 u106 u107 u108 u109 u110 u111 u112 u113 u114 u115 u116 u117 u118 u119 u120 u121 u122 u123 u124 u125 u126 u127 u128 u129 u130 u131 u132 u133 u134 u135 u136 u137 u138 u139 u140 u141 u142 u143 u144 u145 u146 u147 u148 u149 u150 u151 u152 u153 u154 u155 u156 u157 u158 u159 u160 u161 u162 u163 u164 u165 u166 u167 u168 u169 u170 u171 u172 u173 u174 u175 u176 u177 u178 u179 u180 u181 u182 u183 u184 u185 u186 u187 u188 u189 u190 u191 u192 u193 u194 u195 u196 u197 u198 u199 u200 u201 u202 u203 u204 u205 u206 u207 u208 u209 u210 u211 u212 u213 u214 u215 u216 u217 u218 u219 u220 u221 u222 u223 u224 u225 u226 : Value) (wx : World) (L' : AmL) (O' P' : List Nat), Hid (AXA D w wx p q n L' L' O' P' Y ⟨ak, ai, aa, ab⟩) → K { tmps := #[Value.int IntKind.i64 ↑n, Value.slice (some { block := b, off := o }) j c, Value.int IntKind.i64 look, undef, undef, undef, u6, undef, u8, Value.pointer (some { block := p, off := 0 }), Value.pointer (some { block := q, off := 0 }), undef, Value.pointer (some { block := Y, off := 0 }), Value.bool true, u14, u15, u16, u17, u18, u19, u20, u21, u22, u23, u24, u25, u26, u27, u28, u29, u30, u31, u32, u33, u34, u35, Value.slice (some { block := b, off := o }) j c, Value.int IntKind.i64 ↑j, Value.bool false, undef, Value.slice (some { block := b, off := o }) j c, Value.int IntKind.i64 ↑j, Value.int IntKind.i64 ↑j, Value.bool false, u44, u45, u46, u47, u48, u49, u50, u51, u52, u53, u54, u55, u56, u57, u58, u59, u60, Value.int IntKind.i64 ↑n, Value.pointer (some { block := p, off := 0 }), Value.int IntKind.i64 ↑n, Value.pointer (some { block := q, off := 0 }), Value.pointer (some { block := p, off := 0 }), Value.bool false, Value.pointer (some { block := q, off := 0 }), Value.bool false, Value.bool false, Value.pointer (some { block := q, off := 0 }), Value.bool false, undef, Value.slice (some { block := b, off := o }) j c, Value.int IntKind.i64 ↑j, Value.int IntKind.i64 ↑j2, Value.bool true, Value.pointer (some { block := b, off := o + j2 * 4 }), Value.agg #[Value.int IntKind.i64 ak, Value.int IntKind.i64 ai, Value.int IntKind.i64 aa, Value.int IntKind.i64 ab], Value.pointer (some { block := Y, off := 0 }), Value.int IntKind.i64 ak, u81, u82, u83, u84, u85, u86, u87, u88, u89, u90, u91, u92, u93, u94, u95, u96, u97, u98, u99, u100, u101, u102, u103, u104, u105, u106, u107, u108, u109, u110, u111, u112, u113, u114, u115, u116, u117, u118, u119, u120, u121, u122, u123, u124, u125, u126, u127, u128, u129, u130, u131, u132, u133, u134, u135, u136, u137, u138, u139, u140, u141, u142, u143, u144, u145, u146, u147, u148, u149, u150, u151, u152, u153, u154, u155, u156, u157, u158, u159, u160, u161, u162, u163, u164, u165, u166, u167, u168, u169, u170, u171, u172, u173, u174, u175, u176, u177, u178, u179, u180, u181, u182, u183, u184, u185, u186, u187, u188, u189, u190, u191, u192, u193, u194, u195, u196, u197, u198, u199, u200, u201, u202, u203, u204, u205, u206, u207, u208, u209, u210, u211, u212, u213, u214, u215, u216, u217, u218, u219, u220, u221, u222, u223, u224, u225, u226, u227, u228, u229, u230, u231, u232, u233, u234, u235, u236, u237, u238, u239, u240, u241, u242, u243, u244, u245, u246, u247, u248, u249, u250, u251, u252, u253, u254, u255, u256, u257, u258, u259, u260, u261, u262, u263, u264, u265, u266, u267, u268, u269, u270, u271, u272, u273, u274, u275, u276, u277, u278, u279, u280, u281, u282, u283, u284, u285, u286, u287, u288, u289, u290, u291, u292, u293, u294, u295, u296, u297, u298, u299, u300, u301, u302, u303, u304, u305, u306, u307, u308, u309, u310, u311, u312, u313, u314, u315, u316, u317, u318, u319, u320, u321, u322, u323, undef], defers := [] } wx := by
                as_aux_lemma =>
                intro u14 u15 u16 u17 u18 u19 u20 u21 u22 u23 u24 u25 u26 u27 u28 u29 u30 u31 u81 u82 u83 u84 u85 u86 u87 u88 u89 u90 u91 u92 u93 u94 u95 u96 u97 u98 u99 u100 u101 u102 u103 u104 u105 u106 u107 u108 u109 u110 u111 u112 u113 u114 u115 u116 u117 u118 u119 u120 u121 u122 u123 u124 u125 u126 u127 u128 u129 u130 u131 u132 u133 u134 u135 u136 u137 u138 u139 u140 u141 u142 u143 u144 u145 u146 u147 u148 u149 u150 u151 u152 u153 u154 u155 u156 u157 u158 u159 u160 u161 u162 u163 u164 u165 u166 u167 u168 u169 u170 u171 u172 u173 u174 u175 u176 u177 u178 u179 u180 u181 u182 u183 u184 u185 u186 u187 u188 u189 u190 u191 u192 u193 u194 u195 u196 u197 u198 u199 u200 u201 u202 u203 u204 u205 u206 u207 u208 u209 u210 u211 u212 u213 u214 u215 u216 u217 u218 u219 u220 u221 u222 u223 u224 u225 u226 wx L' O' P' HX
                clear HR b0 b1 b2 b3
                apply hK
                obtain ⟨b0, b1, b2, b3⟩ := HX.out.b.at
                simp only at b0 b1 b2 b3
                have hgd := HT.out.good HX.out.two.one.d
                have hal := anons_len hgd ai
                have hil : (idsA L').length ≤ 4096 := by
                  have h1 := ids_le (L := L')
                  have h2 := hgd.len
                  have h3 := hgd.most
                  omega
                obtain ⟨zs, hzs⟩ : ∃ zs, anonsA L' ai = zs := ⟨_, rfl⟩
                rw [hzs] at hal
                have HZS := Lib.hid hzs
                clear hK hgd
                go_upto_region 38 with fail
                rename_i K2 hK2 K3 hK3
                have tail2 : ∀ (u33 u34 u35 u227 u228 u229 u230 u231 u232 u233 u234 u235 u236 u237 u238 u239 u240 u241 u242 u243 u244 u245 u246 u247 u248 u249 u250 u251 u252 u253 u254 u255 u256 u257 u258 u259 u260 u261 v : Value) (wz : World), Hid (AXW D w wz p q n L' O' P' Y ⟨ak, ai, aa, ab⟩ v (cutU look m2 (usedA zs))) → K2 { tmps := #[Value.int IntKind.i64 ↑n, Value.slice (some { block := b, off := o }) j c, Value.int IntKind.i64 look, undef, undef, undef, u6, undef, u8, Value.pointer (some { block := p, off := 0 }), Value.pointer (some { block := q, off := 0 }), undef, Value.pointer (some { block := Y, off := 0 }), Value.bool true, u14, u15, u16, u17, u18, u19, u20, u21, u22, u23, u24, u25, u26, u27, u28, u29, u30, u31, v, u33, u34, u35, Value.slice (some { block := b, off := o }) j c, Value.int IntKind.i64 ↑j, Value.bool false, undef, Value.slice (some { block := b, off := o }) j c, Value.int IntKind.i64 ↑j, Value.int IntKind.i64 ↑j, Value.bool false, u44, u45, u46, u47, u48, u49, u50, u51, u52, u53, u54, u55, u56, u57, u58, u59, u60, Value.int IntKind.i64 ↑n, Value.pointer (some { block := p, off := 0 }), Value.int IntKind.i64 ↑n, Value.pointer (some { block := q, off := 0 }), Value.pointer (some { block := p, off := 0 }), Value.bool false, Value.pointer (some { block := q, off := 0 }), Value.bool false, Value.bool false, Value.pointer (some { block := q, off := 0 }), Value.bool false, undef, Value.slice (some { block := b, off := o }) j c, Value.int IntKind.i64 ↑j, Value.int IntKind.i64 ↑j2, Value.bool true, Value.pointer (some { block := b, off := o + j2 * 4 }), Value.agg #[Value.int IntKind.i64 ak, Value.int IntKind.i64 ai, Value.int IntKind.i64 aa, Value.int IntKind.i64 ab], Value.pointer (some { block := Y, off := 0 }), Value.int IntKind.i64 ak, u81, u82, u83, u84, u85, u86, u87, u88, u89, u90, u91, u92, u93, u94, u95, u96, u97, u98, u99, u100, u101, u102, u103, u104, u105, u106, u107, u108, u109, u110, u111, u112, u113, u114, u115, u116, u117, u118, u119, u120, u121, u122, u123, u124, u125, u126, u127, u128, u129, u130, u131, u132, u133, u134, u135, u136, u137, u138, u139, u140, u141, u142, u143, u144, u145, u146, u147, u148, u149, u150, u151, u152, u153, u154, u155, u156, u157, u158, u159, u160, u161, u162, u163, u164, u165, u166, u167, u168, u169, u170, u171, u172, u173, u174, u175, u176, u177, u178, u179, u180, u181, u182, u183, u184, u185, u186, u187, u188, u189, u190, u191, u192, u193, u194, u195, u196, u197, u198, u199, u200, u201, u202, u203, u204, u205, u206, u207, u208, u209, u210, u211, u212, u213, u214, u215, u216, u217, u218, u219, u220, u221, u222, u223, u224, u225, u226, u227, u228, u229, u230, u231, u232, u233, u234, u235, u236, u237, u238, u239, u240, u241, u242, u243, u244, u245, u246, u247, u248, u249, u250, u251, u252, u253, u254, u255, u256, u257, u258, u259, u260, u261, u262, u263, u264, u265, u266, u267, u268, u269, u270, u271, u272, u273, u274, u275, u276, u277, u278, u279, u280, u281, u282, u283, u284, u285, u286, u287, u288, u289, u290, u291, u292, u293, u294, u295, u296, u297, u298, u299, u300, u301, u302, u303, u304, u305, u306, u307, u308, u309, u310, u311, u312, u313, u314, u315, u316, u317, u318, u319, u320, u321, u322, u323, undef], defers := [] } wz := by
                  as_aux_lemma =>
                  intro u33 u34 u35 u227 u228 u229 u230 u231 u232 u233 u234 u235 u236 u237 u238 u239 u240 u241 u242 u243 u244 u245 u246 u247 u248 u249 u250 u251 u252 u253 u254 u255 u256 u257 u258 u259 u260 u261 v wz HW
                  apply hK2
                  obtain ⟨sv, cv, rfl⟩ := rowOf_form HW.out.r
                  have HB := Lib.hid (HW.out.grow HT.out.toStOkA (grown_drew1 _))
                  have hkd := HB.out.x.cells
                  simp only at hkd
                  have hwl : (cutU look m2 (usedA zs)).length ≤ 8192 := by
                    have h1 := cutu_len (look := look) (m2 := m2) (u := usedA zs)
                    have h2 := used_len («as» := zs) (n := zs.length)
                    unfold usedA at *
                    omega
                  clear HX HW hK2 b0 b1 b2 b3
                  go_wp2_with fail
                  go_region_held3 (fun W => W.cell? ⟨Y, 1, none⟩ = some (.int .i64 ai) ∧ W.cell? ⟨Y, 2, none⟩ = some (.int .i64 aa) ∧ W.cell? ⟨Y, 3, none⟩ = some (.int .i64 ab)) (first | exact hkd | fail)
                    (first
                      | (go_at_call 23; with_reducible refine ((HT.out.slots HB.out.x.two.one.d ai HOk.out.id).mono ?_); rintro e w9 ⟨rfl, g9⟩; replace HB := Lib.hid (HB.out.grow HT.out.toStOkA g9); replace hkd := HB.out.x.cells; simp only at hkd; clear g9)
                      | (go_at_call 24; with_reducible refine ((rds_slots HB.out.x.two.two.d ai HOk.out.id).mono ?_); rintro e w9 ⟨rfl, g9⟩; replace HB := Lib.hid (HB.out.grow HT.out.toStOkA g9); replace hkd := HB.out.x.cells; simp only at hkd; clear g9)
                      | (go_at_call 25; with_reducible refine ((HT.out.cover HB.out.x.two.one.d ai aa HOk.out.id HOk.out.a).mono ?_); rintro e w9 ⟨rfl, g9⟩; replace HB := Lib.hid (HB.out.grow HT.out.toStOkA g9); replace hkd := HB.out.x.cells; simp only at hkd; clear g9)
                      | (go_at_call 26; with_reducible refine ((rds_cover HB.out.x.two.two.d ai aa HOk.out.id HOk.out.a).mono ?_); rintro e w9 ⟨rfl, g9⟩; replace HB := Lib.hid (HB.out.grow HT.out.toStOkA g9); replace hkd := HB.out.x.cells; simp only at hkd; clear g9)
                      | (go_at_call 27; with_reducible refine ((HT.out.get HB.out.x.two.one.d ai aa HOk.out.id HOk.out.a).mono ?_); rintro e w9 ⟨rfl, g9⟩; replace HB := Lib.hid (HB.out.grow HT.out.toStOkA g9); replace hkd := HB.out.x.cells; simp only at hkd; clear g9)
                      | (go_at_call 28; with_reducible refine ((rds_get HB.out.x.two.two.d ai aa HOk.out.id HOk.out.a).mono ?_); rintro e w9 ⟨rfl, g9⟩; replace HB := Lib.hid (HB.out.grow HT.out.toStOkA g9); replace hkd := HB.out.x.cells; simp only at hkd; clear g9)
                      | (go_at_call 29; with_reducible refine ((HT.out.ids HB.out.x.two.one.d).mono ?_); rintro e w9 ⟨u9, rfl, hu9, -, g9⟩; obtain ⟨s9, c9, rfl⟩ := rowOf_form hu9; have HI1 := Lib.hid hu9; replace HB := Lib.hid (HB.out.grow HT.out.toStOkA g9); replace hkd := HB.out.x.cells; simp only at hkd; clear g9 hu9)
                      | (go_at_call 30; with_reducible refine ((rds_ids HB.out.x.two.two.d).mono ?_); rintro e w9 ⟨u10, rfl, hu10, -, g9⟩; obtain ⟨s10, c10, rfl⟩ := rowOf_form hu10; replace HI1 := Lib.hid (rowOf_grow HI1.out g9); have HI2 := Lib.hid hu10; replace HB := Lib.hid (HB.out.grow HT.out.toStOkA g9); replace hkd := HB.out.x.cells; simp only at hkd; clear g9 hu10)
                      | (go_at_call 31; with_reducible refine ((HUs.out _ _ _ _ _ _ _ _ HB.out.x.two.one.d HOk.out.id HLk.out HM2.out).mono ?_); rw [HZS.out]; rintro e w9 ⟨u11, rfl, hu11, -, g9⟩; obtain ⟨s11, c11, rfl⟩ := rowOf_form hu11; have HI3 := Lib.hid hu11; replace HB := Lib.hid (HB.out.grow HT.out.toStOkA g9); replace hkd := HB.out.x.cells; simp only at hkd; clear g9 hu11)
                      | (go_at_call 19; with_reducible refine ((ints_ok c9 c10 HI1.out HI2.out (by omega) true (by simp)).mono ?_); rintro e w9 ⟨rfl, g9⟩; replace HB := Lib.hid (HB.out.grow HT.out.toStOkA g9); replace hkd := HB.out.x.cells; simp only at hkd; clear g9)
                      | (go_at_call 19; with_reducible refine ((ints_ok c11 cv HI3.out HB.out.r (by omega) true (by simp)).mono ?_); rintro e w9 ⟨rfl, g9⟩; replace HB := Lib.hid (HB.out.grow HT.out.toStOkA g9); replace hkd := HB.out.x.cells; simp only at hkd; clear g9)
                      | fail)
                  all_goals
                    go_wp2_with fail
                    go_roundw
                    case rel => exact ⟨j2 + 1, L', O', P', by omega, by go_num, Lib.hid HB.out.x.two⟩
                    case measure => simp [intOf]; omega
                clear hK2
                rcases rds_of HX.out.two.two.d ai HOk.out.id with ⟨h0, hof⟩ | ⟨a9, g9, hof, hc9, hr9⟩
                · have HOf := Lib.hid hof
                  rw [hzs] at h0
                  have HW := Lib.hid (show AXW D w wx p q n L' O' P' Y ⟨ak, ai, aa, ab⟩ (.slice none 0 0) (cutU look m2 (usedA zs)) from ⟨HX.out, by rw [h0]; exact RowAt.nil _ _⟩)
                  clear hof hzs h0 HX
                  go_wp2_with fail
                  refine HOf.out.mono ?_
                  rintro e wy ⟨rfl, e2⟩
                  subst wy
                  go_wp2_with fail
                  first | exact HW | exact tail2 _ _ _ _ _ _ _ _ _ _ _ _ _ _ _ _ _ _ _ _ _ _ _ _ _ _ _ _ _ _ _ _ _ _ _ _ _ _ _ _ HW
                · have HOf := Lib.hid hof
                  rw [hzs] at hc9 hr9
                  have HR9 := Lib.hid hr9
                  have hqn := neq_ram
                  clear hof hzs hr9
                  go_wp2_with fail
                  refine HOf.out.mono ?_
                  rintro e wy ⟨rfl, e2⟩
                  subst wy
                  go_wp2_with fail
                  go_loopw [32, 238] (fun uv iv wr => ∃ k : Nat, k ≤ zs.length ∧ iv = .int .i64 k ∧ Hid (ZMk wx wr uv (cutU look m2 (usedTo zs k))) ∧ Hid (AXA D w wr p q n L' L' O' P' Y ⟨ak, ai, aa, ab⟩)) (fun _ iv _ => zs.length - (intOf iv).toNat)
                  case atStart => exact ⟨0, by omega, rfl, MkOf.nil wx, HX⟩
                  case round =>
                    obtain ⟨k, hk, rfl, HM, HJ2⟩ := hrel
                    by_cases hlt3 : k < zs.length
                    · obtain ⟨z, hz⟩ : ∃ z, zs[k]? = some z := ⟨_, List.getElem?_eq_getElem hlt3⟩
                      obtain ⟨g8, o8, c8, hv8, k0⟩ := z_cells (rowOf_grow HR9.out HM.out.grown) hz
                      injection hv8 with e1 e2 e3
                      injection e1 with e1
                      injection e1 with e4 e5 e6
                      subst e4 e5
                      rw [Nat.zero_add] at k0
                      have hzd : zs.getD k 0 = z := by rw [List.getD_eq_getElem?_getD, hz]; rfl
                      have hcu := cutu_used (look := look) (m2 := m2) («as» := zs) (n := k)
                      rw [hzd] at hcu
                      have hcl := cutu_len (look := look) (m2 := m2) (u := usedTo zs k)
                      have hul := used_len («as» := zs) (n := k)
                      obtain ⟨Z, hZ⟩ : ∃ Z, cutU look m2 (usedTo zs k) = Z := ⟨_, rfl⟩
                      rw [hZ] at HM hcu hcl
                      have hZl : Z.length ≤ 8192 := by omega
                      obtain ⟨sa1, sc1, hu1⟩ := OwnOf.form HM.out.own
                      subst hu1
                      have HCU := Lib.hid hcu
                      clear hz hzd hcu hcl hul hZ e2 e3 b0 b1 b2 b3 e6
                      by_cases h0 : z ≠ 0 ∧ moreU look m2 Z.length
                      · have HQ := HCU
                        rw [if_pos h0] at HQ
                        have d0 : (z != 0) = true := by simpa using h0.1
                        have dd : decide (look < 0) = true ∨ (decide (look < 0) = false ∧ decide ((Z.length : Int) < m2) = true) := by
                          have h1 := h0.2
                          unfold moreU at h1
                          simp only [decide_eq_true_eq, decide_eq_false_iff_not]
                          omega
                        clear h0 HCU
                        rcases dd with d1 | ⟨d1, d2⟩
                        all_goals
                          go_wp2_with (at_builtin; refine wpList_ztwo wr rfl _ _ rfl wx.heap.size (.slice sa1 Z.length sc1) Z (k : Int) z rfl HM.out.own wr.heap.size 2 rfl rfl (by omega) HM.out.grown.size ?_; intro g7 c7 w10 hown9 hgrow9; have HN := Lib.hid (MkOf.app HM.out hgrow9 hown9); have HP := Lib.hid (AXA.app HT.out.toStOkA HX.out HJ2.out HM.out hgrow9); clear hown9 hgrow9)
                          go_roundw
                          case rel => exact ⟨k + 1, by omega, by go_num, by rw [HQ.out]; exact HN, HP⟩
                          case measure => simp [intOf]; omega
                      · have HQ := HCU
                        rw [if_neg h0] at HQ
                        have dd : (z != 0) = false ∨ ((z != 0) = true ∧ decide (look < 0) = false ∧ decide ((Z.length : Int) < m2) = false) := by
                          by_cases e0 : z = 0
                          · exact .inl (by simp [e0])
                          · refine .inr ⟨by simpa using e0, ?_⟩
                            have h1 : ¬ moreU look m2 Z.length := fun k => h0 ⟨e0, k⟩
                            unfold moreU at h1
                            simp only [decide_eq_false_iff_not]
                            omega
                        clear h0 HCU
                        rcases dd with d0 | ⟨d0, d1, d2⟩
                        all_goals
                          go_wp2_with fail
                          go_roundw
                          case rel => exact ⟨k + 1, by omega, by go_num, by rw [HQ.out]; exact HM, HJ2⟩
                          case measure => simp [intOf]; omega
                    · obtain rfl : k = zs.length := by omega
                      have HW := Lib.hid (show AXW D w wr p q n L' O' P' Y ⟨ak, ai, aa, ab⟩ _ (cutU look m2 (usedA zs)) from ⟨HJ2.out, MkOf.row HM.out⟩)
                      go_wp2_with fail
                      first | exact HW | exact tail2 _ _ _ _ _ _ _ _ _ _ _ _ _ _ _ _ _ _ _ _ _ _ _ _ _ _ _ _ _ _ _ _ _ _ _ _ _ _ _ _ HW
              clear hK
              by_cases k0 : ak = 0
              · subst k0
                obtain ⟨X, hX⟩ : ∃ X, makeA n L ab = X := ⟨_, rfl⟩
                have hk := HT.out.make HR.out.two.one.d ab HOk.out.b
                rw [hX] at hk
                have HK := Lib.hid hk
                have HXe := Lib.hid hX
                clear hk hX
                go_wp2_with fail
                refine HK.out.mono ?_
                rintro e w4 ⟨rfl, h4⟩
                obtain ⟨O4, h4⟩ := HR.out.first h4
                have H4 := Lib.hid h4
                obtain ⟨z0, z1, z2, z3⟩ := H4.out.b.at
                simp only at z0 z1 z2 z3
                have hk := rds_make H4.out.two.two.d ab HOk.out.b
                rw [HXe.out] at hk
                have HK2 := Lib.hid hk
                clear hk h4 HK HR b0 b1 b2 b3
                go_wp2_with fail
                refine HK2.out.mono ?_
                rintro e w5 ⟨rfl, h5⟩
                obtain ⟨P5, h5, -⟩ := H4.out.second HT.out.toStOkA h5
                have H5 := Lib.hid h5
                obtain ⟨L5, hL5⟩ : ∃ L5, X.L = L5 := ⟨_, rfl⟩
                rw [hL5] at H5
                clear h5 HK2 H4 HXe z0 z1 z2 z3 hL5
                go_wp2_with fail
                exact tail _ _ _ _ _ _ _ _ _ _ _ _ _ _ _ _ _ _ _ _ _ _ _ _ _ _ _ _ _ _ _ _ _ _ _ _ _ _ _ _ _ _ _ _ _ _ _ _ _ _ _ _ _ _ _ _ _ _ _ _ _ _ _ _ _ _ _ _ _ _ _ _ _ _ _ _ _ _ _ _ _ _ _ _ _ _ _ _ _ _ _ _ _ _ _ _ _ _ _ _ _ _ _ _ _ _ _ _ _ _ _ _ _ _ _ _ _ _ _ _ _ _ _ _ _ _ _ _ _ _ _ _ _ _ _ _ _ _ _ _ _ _ _ _ _ _ _ _ _ _ _ _ _ _ _ _ _ _ _ _ _ _ _ _ _ L5 _ _ H5
              · have n0 : (ak == 0) = false := by simpa using k0
                by_cases k1 : ak = 1
                · subst k1
                  obtain ⟨X, hX⟩ : ∃ X, setA L ai aa ab = X := ⟨_, rfl⟩
                  have hk := HT.out.set HR.out.two.one.d ai aa ab HOk.out.id HOk.out.a HOk.out.b
                  rw [hX] at hk
                  have HK := Lib.hid hk
                  have HXe := Lib.hid hX
                  clear hk hX
                  go_wp2_with fail
                  refine HK.out.mono ?_
                  rintro e w4 ⟨rfl, h4⟩
                  obtain ⟨O4, h4⟩ := HR.out.first h4
                  have H4 := Lib.hid h4
                  obtain ⟨z0, z1, z2, z3⟩ := H4.out.b.at
                  simp only at z0 z1 z2 z3
                  have hk := rds_set H4.out.two.two.d ai aa ab HOk.out.id HOk.out.a HOk.out.b
                  rw [HXe.out] at hk
                  have HK2 := Lib.hid hk
                  clear hk h4 HK HR b0 b1 b2 b3
                  go_wp2_with fail
                  refine HK2.out.mono ?_
                  rintro e w5 ⟨rfl, h5⟩
                  obtain ⟨P5, h5, -⟩ := H4.out.second HT.out.toStOkA h5
                  have H5 := Lib.hid h5
                  obtain ⟨L5, hL5⟩ : ∃ L5, X.L = L5 := ⟨_, rfl⟩
                  rw [hL5] at H5
                  clear h5 HK2 H4 HXe z0 z1 z2 z3 hL5
                  go_wp2_with fail
                  exact tail _ _ _ _ _ _ _ _ _ _ _ _ _ _ _ _ _ _ _ _ _ _ _ _ _ _ _ _ _ _ _ _ _ _ _ _ _ _ _ _ _ _ _ _ _ _ _ _ _ _ _ _ _ _ _ _ _ _ _ _ _ _ _ _ _ _ _ _ _ _ _ _ _ _ _ _ _ _ _ _ _ _ _ _ _ _ _ _ _ _ _ _ _ _ _ _ _ _ _ _ _ _ _ _ _ _ _ _ _ _ _ _ _ _ _ _ _ _ _ _ _ _ _ _ _ _ _ _ _ _ _ _ _ _ _ _ _ _ _ _ _ _ _ _ _ _ _ _ _ _ _ _ _ _ _ _ _ _ _ _ _ _ _ _ _ L5 _ _ H5
                · have n1 : (ak == 1) = false := by simpa using k1
                  by_cases k2 : ak = 2
                  · subst k2
                    obtain ⟨X, hX⟩ : ∃ X, holdA L ai aa ab = X := ⟨_, rfl⟩
                    have HXe := Lib.hid hX
                    have HB := Lib.hid (HR.out.grow HT.out.toStOkA (grown_drew1 _))
                    have hkd := HB.out.cells
                    simp only at hkd
                    clear hX HR
                    go_wp2_with fail
                    clear b0 b1 b2 b3
                    go_region_held3 (fun W => W.cell? ⟨Y, 1, none⟩ = some (.int .i64 ai) ∧ W.cell? ⟨Y, 2, none⟩ = some (.int .i64 aa) ∧ W.cell? ⟨Y, 3, none⟩ = some (.int .i64 ab)) (first | exact hkd | fail)
                      (first
                        | (go_at_call 15; with_reducible refine ((HT.out.hold HB.out.two.one.d ai aa ab HOk.out.id HOk.out.a HOk.out.b).mono ?_); rw [HXe.out]; rintro e w5 ⟨rfl, h5⟩; obtain ⟨O5, h5⟩ := HB.out.first h5; have HH := Lib.hid h5; replace hkd := HH.out.cells; simp only at hkd; clear h5)
                        | (go_at_call 16; with_reducible refine ((rds_hold HH.out.two.two.d ai aa ab HOk.out.id HOk.out.a HOk.out.b).mono ?_); rw [HXe.out]; rintro e w6 ⟨rfl, h6⟩; obtain ⟨P6, h6, -⟩ := HH.out.second HT.out.toStOkA h6; have H7 := Lib.hid h6; replace hkd := H7.out.cells; simp only at hkd; clear h6)
                        | fail)
                    obtain ⟨L5, hL7⟩ : ∃ L5, X.L = L5 := ⟨_, rfl⟩
                    rw [hL7] at H7
                    clear HXe hL7 HH HB hkd
                    go_wp2_with fail
                    exact tail _ _ _ _ _ _ _ _ _ _ _ _ _ _ _ _ _ _ _ _ _ _ _ _ _ _ _ _ _ _ _ _ _ _ _ _ _ _ _ _ _ _ _ _ _ _ _ _ _ _ _ _ _ _ _ _ _ _ _ _ _ _ _ _ _ _ _ _ _ _ _ _ _ _ _ _ _ _ _ _ _ _ _ _ _ _ _ _ _ _ _ _ _ _ _ _ _ _ _ _ _ _ _ _ _ _ _ _ _ _ _ _ _ _ _ _ _ _ _ _ _ _ _ _ _ _ _ _ _ _ _ _ _ _ _ _ _ _ _ _ _ _ _ _ _ _ _ _ _ _ _ _ _ _ _ _ _ _ _ _ _ _ _ _ _ L5 _ _ H7
                  · have n2 : (ak == 2) = false := by simpa using k2
                    by_cases k3 : ak = 3
                    · subst k3
                      obtain ⟨X, hX⟩ : ∃ X, dropA L ai aa ab = X := ⟨_, rfl⟩
                      have hXl : X.l.length ≤ 4096 := by rw [← hX]; exact drop_len (HT.out.good HR.out.two.one.d)
                      have hk := HT.out.drop HR.out.two.one.d ai aa ab HOk.out.id HOk.out.a HOk.out.b
                      rw [hX] at hk
                      have HK := Lib.hid hk
                      have HXe := Lib.hid hX
                      clear hk hX
                      go_wp2_with fail
                      refine HK.out.mono ?_
                      rintro e w4 ⟨u4, rfl, r4, o4, h4⟩
                      obtain ⟨s4, c4, rfl⟩ := rowOf_form r4
                      have hap : ∀ b, (Value.slice s4 X.l.length c4).ownBlock = some b → b ∉ P := fun b e hm => by
                        have h1 := o4 b e
                        have h2 := rdsOk.lt HR.out.two.two.d b hm
                        omega
                      obtain ⟨O4, h4⟩ := HR.out.first h4
                      have H4 := Lib.hid h4
                      have HR4 := Lib.hid r4
                      have HAp := Lib.hid hap
                      obtain ⟨z0, z1, z2, z3⟩ := H4.out.b.at
                      simp only at z0 z1 z2 z3
                      have hk := rds_drop H4.out.two.two.d ai aa ab HOk.out.id HOk.out.a HOk.out.b
                      rw [HXe.out] at hk
                      have HK2 := Lib.hid hk
                      clear hk h4 r4 o4 hap HK HR b0 b1 b2 b3
                      go_wp2_with fail
                      refine HK2.out.mono ?_
                      rintro e w5 ⟨u5, rfl, r5, -, h5⟩
                      obtain ⟨s5, c5, rfl⟩ := rowOf_form r5
                      obtain ⟨P5, h5, t5⟩ := H4.out.second HT.out.toStOkA h5
                      have r4 := row_turn HR4.out t5 HAp.out
                      have HI := Lib.hid (ints_ok c4 c5 r4 r5 (by omega) true (by simp))
                      have H5 := Lib.hid h5
                      obtain ⟨L5, hL5⟩ : ∃ L5, X.L = L5 := ⟨_, rfl⟩
                      rw [hL5] at H5
                      clear h5 r4 r5 t5 HK2 H4 HR4 HAp HXe z0 z1 z2 z3 hL5
                      go_wp2_with fail
                      refine HI.out.mono ?_
                      rintro e w6 ⟨rfl, g6⟩
                      have H6 := Lib.hid (H5.out.grow HT.out.toStOkA g6)
                      clear g6 H5 HI
                      go_wp2_with fail
                      exact tail _ _ _ _ _ _ _ _ _ _ _ _ _ _ _ _ _ _ _ _ _ _ _ _ _ _ _ _ _ _ _ _ _ _ _ _ _ _ _ _ _ _ _ _ _ _ _ _ _ _ _ _ _ _ _ _ _ _ _ _ _ _ _ _ _ _ _ _ _ _ _ _ _ _ _ _ _ _ _ _ _ _ _ _ _ _ _ _ _ _ _ _ _ _ _ _ _ _ _ _ _ _ _ _ _ _ _ _ _ _ _ _ _ _ _ _ _ _ _ _ _ _ _ _ _ _ _ _ _ _ _ _ _ _ _ _ _ _ _ _ _ _ _ _ _ _ _ _ _ _ _ _ _ _ _ _ _ _ _ _ _ _ _ _ _ L5 _ _ H6
                    · have n3 : (ak == 3) = false := by simpa using k3
                      by_cases k4 : ak = 4
                      · subst k4
                        obtain ⟨X, hX⟩ : ∃ X, copyA n L ai aa ab = X := ⟨_, rfl⟩
                        have hXl : X.l.length ≤ 4096 := by rw [← hX]; exact copy_len (HT.out.good HR.out.two.one.d)
                        have hk := HT.out.copy HR.out.two.one.d ai aa ab HOk.out.id HOk.out.a HOk.out.b
                        rw [hX] at hk
                        have HK := Lib.hid hk
                        have HXe := Lib.hid hX
                        clear hk hX
                        go_wp2_with fail
                        refine HK.out.mono ?_
                        rintro e w4 ⟨u4, O4, rfl, r4, o4, ⟨h4, t4, q4⟩, ap4⟩
                        obtain ⟨s4, c4, rfl⟩ := rowOf_form r4
                        have hap : ∀ b, (Value.slice s4 X.l.length c4).ownBlock = some b → b ∉ P := fun b e hm => by
                          have h1 := o4 b e
                          have h2 := rdsOk.lt HR.out.two.two.d b hm
                          omega
                        obtain ⟨O4, h4⟩ := HR.out.first ⟨O4, h4, t4, q4⟩
                        have H4 := Lib.hid h4
                        have HR4 := Lib.hid r4
                        have HAp := Lib.hid hap
                        obtain ⟨z0, z1, z2, z3⟩ := H4.out.b.at
                        simp only at z0 z1 z2 z3
                        have hk := rds_copy H4.out.two.two.d ai aa ab HOk.out.id HOk.out.a HOk.out.b
                        rw [HXe.out] at hk
                        have HK2 := Lib.hid hk
                        clear hk h4 r4 o4 hap HK HR b0 b1 b2 b3
                        go_wp2_with fail
                        refine HK2.out.mono ?_
                        rintro e w5 ⟨u5, rfl, r5, -, h5⟩
                        obtain ⟨s5, c5, rfl⟩ := rowOf_form r5
                        obtain ⟨P5, h5, t5⟩ := H4.out.second HT.out.toStOkA h5
                        have r4 := row_turn HR4.out t5 HAp.out
                        have HI := Lib.hid (ints_ok c4 c5 r4 r5 (by omega) true (by simp))
                        have H5 := Lib.hid h5
                        obtain ⟨L5, hL5⟩ : ∃ L5, X.L = L5 := ⟨_, rfl⟩
                        rw [hL5] at H5
                        clear h5 r4 r5 t5 HK2 H4 HR4 HAp HXe z0 z1 z2 z3 hL5
                        go_wp2_with fail
                        refine HI.out.mono ?_
                        rintro e w6 ⟨rfl, g6⟩
                        have H6 := Lib.hid (H5.out.grow HT.out.toStOkA g6)
                        clear g6 H5 HI
                        go_wp2_with fail
                        exact tail _ _ _ _ _ _ _ _ _ _ _ _ _ _ _ _ _ _ _ _ _ _ _ _ _ _ _ _ _ _ _ _ _ _ _ _ _ _ _ _ _ _ _ _ _ _ _ _ _ _ _ _ _ _ _ _ _ _ _ _ _ _ _ _ _ _ _ _ _ _ _ _ _ _ _ _ _ _ _ _ _ _ _ _ _ _ _ _ _ _ _ _ _ _ _ _ _ _ _ _ _ _ _ _ _ _ _ _ _ _ _ _ _ _ _ _ _ _ _ _ _ _ _ _ _ _ _ _ _ _ _ _ _ _ _ _ _ _ _ _ _ _ _ _ _ _ _ _ _ _ _ _ _ _ _ _ _ _ _ _ _ _ _ _ _ L5 _ _ H6
                      · have n4 : (ak == 4) = false := by simpa using k4
                        go_wp2_with fail
                        exact tail _ _ _ _ _ _ _ _ _ _ _ _ _ _ _ _ _ _ _ _ _ _ _ _ _ _ _ _ _ _ _ _ _ _ _ _ _ _ _ _ _ _ _ _ _ _ _ _ _ _ _ _ _ _ _ _ _ _ _ _ _ _ _ _ _ _ _ _ _ _ _ _ _ _ _ _ _ _ _ _ _ _ _ _ _ _ _ _ _ _ _ _ _ _ _ _ _ _ _ _ _ _ _ _ _ _ _ _ _ _ _ _ _ _ _ _ _ _ _ _ _ _ _ _ _ _ _ _ _ _ _ _ _ _ _ _ _ _ _ _ _ _ _ _ _ _ _ _ _ _ _ _ _ _ _ _ _ _ _ _ _ _ _ _ _ L _ _ HR
            · obtain rfl : j2 = j := by omega
              go_wp2_with fail
              refine (HLv.out _).mono ?_
              rintro e w6 ⟨rfl, g6⟩
              have HG := Lib.hid (grown_trans HJ.out.one.grown g6)
              clear g6
              go_wp2_with fail
              go_ret
              exact ⟨rfl, HG.out⟩
        · have HN := Lib.hid (fun wx => HT.out.newNo n0 wx hs)
          have HR0 := Lib.hid (fun wx => ra_new_no n0 wx hs)
          clear hs hn
          go_wp2_with fail
          refine (HN.out _).mono ?_
          rintro e w2 ⟨rfl, g2⟩
          have HG2 := Lib.hid (grown_trans HG.out g2)
          clear g2
          go_wp2_with fail
          refine (HR0.out _).mono ?_
          rintro e w3 ⟨rfl, g3⟩
          have HG3 := Lib.hid (grown_trans HG2.out g3)
          clear g3
          go_wp2_with fail
          refine (HLv.out _).mono ?_
          rintro e w6 ⟨rfl, g6⟩
          have HG6 := Lib.hid (grown_trans HG3.out g6)
          clear g6
          go_wp2_with fail
          go_ret
          exact ⟨rfl, HG6.out⟩
  · have d60 : decide ((l : Int) > 80) = true := decide_eq_true (by omega)
    clear H hA hl60 hn
    go_enter Try.func3, Try.ntmps3
    go_wp2_with fail
    refine (HLv.out _).mono ?_
    rintro e w6 ⟨rfl, g6⟩
    have HG := Lib.hid g6
    clear g6
    go_wp2_with fail
    go_ret
    exact ⟨rfl, HG.out⟩
theorem acts_done13 (w : World) (n0 : Int) (sa : Option Addr) (l c : Nat) (As : List AActV) (look : Int) (hA : AActsAre w sa l As) (hn : okI n0) (hk0 : okI look) :
    Calls Try.prog 3 #[.int .i64 n0, .slice sa l c, .int .i64 look] w fun e w' => e = .returned (.bool true) ∧ w.grownBy w' none :=
  acts_walk13 amOk (fun w p m L O id look m2 h hid hlk hm2 => law_used (anonsA L id) (anons_len (amOk.good h) id) hm2 hlk fun W g => amOk.used (StOkA.grow amOk.toStOkA h g) id hid) w n0 sa l c As look hA hn hk0
end Go.Proofs.Ytfmihbiongnpnaa
