/- ObjectActs, walked out of what package object says, beside the document's own objects. Written by wip/genobacts.py. -/
import Derived.Test.YtefcefclncbimaaObActs
import Derived.Test.YtefcefclncbimaaObOk
import Derived.Test.YtefcefclncbimaaWQuiet
import Derived.Deep.RegionHeld3
import Derived.OwnWalk
import Derived.Deep.CutBlock
import Derived.Deep.DeepCutAuto
namespace Go.Proofs.Ytefcefclncbimaa
open Go.ChangeShapes Go.WideShapes Go.ChangeAt Go.RowKit Go.Deep
set_option linter.unusedVariables false
set_option linter.unusedSimpArgs false
attribute [local go_sem] Oper.semAt_some

set_option maxRecDepth 100000 in
set_option maxHeartbeats 16000000 in
theorem acts_walk14 {D : World → Nat → Nat → ObL → List Nat → Prop} (H : ObOk D) (w : World) (n0 : Int) (sa : Option Addr) (l c : Nat) (As : List OActV) (a0 a1 a2 : Int) (hA : OActsAre w sa l As) (hn : okI n0) (h0 : okI a0) (h1 : okI a1) (h2 : okI a2) :
    Calls Try.prog 3 #[.int .i64 n0, .slice sa l c, .agg #[.int .i64 a0, .int .i64 a1, .int .i64 a2]] w fun e w' => e = .returned (.bool true) ∧ w.grownBy w' none := by
  have HLv := Lib.hid (fun wx => lives14 H wx)
  have HT := Lib.hid H
  have HA := Lib.hid hA
  have hsq := eql_seq14
  have q1 := eql_po
  have q2 := eql_po0
  have q3 := eql_ro
  have q4 := eql_ro0
  obtain ⟨y, hy⟩ : ∃ y, w.heap.size = y := ⟨_, rfl⟩
  have f1 : FixB w (w.alloc (askO a0 a1 a2)) [(y, askO a0 a1 a2)] := (FixB.nil w).new (World.grownBy_alloc _ _ none) (by rw [← hy]; exact heap_alloc_new w _) (by omega)
  have s1 : (w.alloc (askO a0 a1 a2)).heap.size = y + 1 := by rw [World.size_alloc]; omega
  have f2 : FixB w ((w.alloc (askO a0 a1 a2)).alloc (rB false)) (aB y a0 a1 a2) := f1.new (World.grownBy_alloc _ _ none) (by rw [← s1]; exact heap_alloc_new _ _) (by omega)
  have H2 := Lib.hid f2
  clear H f1 s1 f2 hA
  unfold askO rB at H2
  refine (callsIn_wide (n := 9)).1 ?_
  refine callsIn_of_wp_marks Try.func3 rfl trivial ?_ rfl
  simp only [Try.ntmps3, List.size_toArray, List.length_cons, List.length_nil, Nat.reduceAdd, Nat.reduceSub, Array.replicate_succ, Array.replicate_zero, List.push_toArray, List.append_toArray, List.nil_append, List.cons_append]
  refine wpIn_wide.2 ?_
  by_cases hs : 0 ≤ n0 ∧ n0 ≤ 4096
  · obtain ⟨n, rfl⟩ := Int.eq_ofNat_of_zero_le hs.1
    have hn4 : n ≤ 4096 := by omega
    have HN := Lib.hid (fun wx => HT.out.new n wx hn4)
    have HR0 := Lib.hid (fun wx => rd_new n wx hn4)
    clear hs hn
    go_wp2_with fail
    refine (HN.out _).mono ?_
    rintro e w2 ⟨p, O, rfl, h2, g2, o2⟩
    go_wp2_with fail
    refine (HR0.out _).mono ?_
    rintro e w3 ⟨q, P, rfl, h3, g3, o3⟩
    have HD := Lib.hid (AXO.make HT.out.toStOkO H2.out g2 h2 o2 g3 h3 o3)
    clear h2 g2 o2 h3 g3 o3 HN HR0 H2
    by_cases hl60 : l ≤ 120
    · have d60 : decide ((l : Int) > 120) = false := decide_eq_false (by omega)
      go_wp2_with fail
      clear q1 q2 q3 q4
      refine wp_loop (fun a9 w9 => ∃ (u48 u10 u11 u12 u13 u14 u15 u16 u17 u18 u19 u20 u21 u22 u23 u24 u25 u26 u27 u28 u49 u50 u51 u52 u53 u54 u55 u56 u57 u58 u59 u60 u61 u62 u63 u64 u65 u66 u67 u68 u69 u70 u71 u72 u73 u74 u75 u76 u77 u78 u79 u80 u81 u82 u83 u84 u85 u86 u87 u88 u89 u90 u91 u92 u93 u94 u95 u96 u97 u98 u99 u100 u101 u102 u103 u104 u105 u106 u107 u108 u109 u110 u111 u112 u113 u114 u115 u116 u117 u118 u119 u120 u121 u122 u123 u124 u125 u126 u127 u128 u129 u130 u131 u132 u133 u134 u135 u136 u137 u138 u139 u140 u141 u142 u143 u144 u145 u146 u147 u148 u149 u150 u151 u152 u153 u154 u155 u156 u157 u158 u159 u160 u161 u162 u163 u164 u165 u166 u167 u168 u169 u170 u171 u172 u173 u174 u175 u176 u177 u178 u179 u180 u181 u182 u183 u184 u185 u186 u187 u188 u189 u190 u191 u192 u193 u194 u195 u196 u197 u198 u199 u200 u201 u202 u203 u204 u205 u206 u207 u208 u209 u210 u211 u212 u213 u214 u215 u216 u217 u218 u219 u220 u221 u222 u223 u224 u225 u226 u227 u228 u229 u230 u231 u232 u233 u234 u235 u236 u237 u238 u239 u240 u241 u242 u243 u244 u245 u246 u247 u248 u249 u250 u251 u252 u253 u254 u255 u256 u257 u258 u259 u260 u261 u262 u263 u264 u265 : Value) (ds : List Deferred), (∃ (j : Nat) (L : ObL) (O P Ds : List Nat), j ≤ l ∧ u48 = .int .i64 (j : Int) ∧ ds = marks Ds ∧ Hid Ds.Nodup ∧ Hid (AXO D w w9 p q n L L O P (Ds.map dfO ++ aB y a0 a1 a2))) ∧ a9 = { tmps := #[.int .i64 (n : Int), .slice sa l c, .agg #[.int .i64 a0, .int .i64 a1, .int .i64 a2], undef, undef, .pointer (some ⟨y, 0, none⟩), .pointer (some ⟨y + 1, 0, none⟩), .pointer (some ⟨p, 0, none⟩), .pointer (some ⟨q, 0, none⟩), undef, u10, u11, u12, u13, u14, u15, u16, u17, u18, u19, u20, u21, u22, u23, u24, u25, u26, u27, u28, .int .i64 (n : Int), .pointer (some ⟨p, 0, none⟩), .int .i64 (n : Int), .pointer (some ⟨q, 0, none⟩), .pointer (some ⟨p, 0, none⟩), .bool false, .pointer (some ⟨q, 0, none⟩), .bool false, .bool false, .pointer (some ⟨q, 0, none⟩), .bool false, .bool false, .slice sa l c, .int .i64 (l : Int), .bool false, .bool false, undef, .slice sa l c, .int .i64 (l : Int), u48, u49, u50, u51, u52, u53, u54, u55, u56, u57, u58, u59, u60, u61, u62, u63, u64, u65, u66, u67, u68, u69, u70, u71, u72, u73, u74, u75, u76, u77, u78, u79, u80, u81, u82, u83, u84, u85, u86, u87, u88, u89, u90, u91, u92, u93, u94, u95, u96, u97, u98, u99, u100, u101, u102, u103, u104, u105, u106, u107, u108, u109, u110, u111, u112, u113, u114, u115, u116, u117, u118, u119, u120, u121, u122, u123, u124, u125, u126, u127, u128, u129, u130, u131, u132, u133, u134, u135, u136, u137, u138, u139, u140, u141, u142, u143, u144, u145, u146, u147, u148, u149, u150, u151, u152, u153, u154, u155, u156, u157, u158, u159, u160, u161, u162, u163, u164, u165, u166, u167, u168, u169, u170, u171, u172, u173, u174, u175, u176, u177, u178, u179, u180, u181, u182, u183, u184, u185, u186, u187, u188, u189, u190, u191, u192, u193, u194, u195, u196, u197, u198, u199, u200, u201, u202, u203, u204, u205, u206, u207, u208, u209, u210, u211, u212, u213, u214, u215, u216, u217, u218, u219, u220, u221, u222, u223, u224, u225, u226, u227, u228, u229, u230, u231, u232, u233, u234, u235, u236, u237, u238, u239, u240, u241, u242, u243, u244, u245, u246, u247, u248, u249, u250, u251, u252, u253, u254, u255, u256, u257, u258, u259, u260, u261, u262, u263, u264, u265, undef], defers := ds }) (fun a9 _ => l - (intOf (a9.tmps.getD 48 undef)).toNat) ?_ ?_
      · (repeat apply Exists.intro)
        refine ⟨?_, rfl⟩
        exact ⟨0, [], O, P, [], by omega, rfl, rfl, List.nodup_nil, HD⟩
      · clear HD
        intro _ wr hinv
        obtain ⟨u48, hinv⟩ := hinv
        obtain ⟨u10, hinv⟩ := hinv
        obtain ⟨u11, hinv⟩ := hinv
        obtain ⟨u12, hinv⟩ := hinv
        obtain ⟨u13, hinv⟩ := hinv
        obtain ⟨u14, hinv⟩ := hinv
        obtain ⟨u15, hinv⟩ := hinv
        obtain ⟨u16, hinv⟩ := hinv
        obtain ⟨u17, hinv⟩ := hinv
        obtain ⟨u18, hinv⟩ := hinv
        obtain ⟨u19, hinv⟩ := hinv
        obtain ⟨u20, hinv⟩ := hinv
        obtain ⟨u21, hinv⟩ := hinv
        obtain ⟨u22, hinv⟩ := hinv
        obtain ⟨u23, hinv⟩ := hinv
        obtain ⟨u24, hinv⟩ := hinv
        obtain ⟨u25, hinv⟩ := hinv
        obtain ⟨u26, hinv⟩ := hinv
        obtain ⟨u27, hinv⟩ := hinv
        obtain ⟨u28, hinv⟩ := hinv
        obtain ⟨u49, hinv⟩ := hinv
        obtain ⟨u50, hinv⟩ := hinv
        obtain ⟨u51, hinv⟩ := hinv
        obtain ⟨u52, hinv⟩ := hinv
        obtain ⟨u53, hinv⟩ := hinv
        obtain ⟨u54, hinv⟩ := hinv
        obtain ⟨u55, hinv⟩ := hinv
        obtain ⟨u56, hinv⟩ := hinv
        obtain ⟨u57, hinv⟩ := hinv
        obtain ⟨u58, hinv⟩ := hinv
        obtain ⟨u59, hinv⟩ := hinv
        obtain ⟨u60, hinv⟩ := hinv
        obtain ⟨u61, hinv⟩ := hinv
        obtain ⟨u62, hinv⟩ := hinv
        obtain ⟨u63, hinv⟩ := hinv
        obtain ⟨u64, hinv⟩ := hinv
        obtain ⟨u65, hinv⟩ := hinv
        obtain ⟨u66, hinv⟩ := hinv
        obtain ⟨u67, hinv⟩ := hinv
        obtain ⟨u68, hinv⟩ := hinv
        obtain ⟨u69, hinv⟩ := hinv
        obtain ⟨u70, hinv⟩ := hinv
        obtain ⟨u71, hinv⟩ := hinv
        obtain ⟨u72, hinv⟩ := hinv
        obtain ⟨u73, hinv⟩ := hinv
        obtain ⟨u74, hinv⟩ := hinv
        obtain ⟨u75, hinv⟩ := hinv
        obtain ⟨u76, hinv⟩ := hinv
        obtain ⟨u77, hinv⟩ := hinv
        obtain ⟨u78, hinv⟩ := hinv
        obtain ⟨u79, hinv⟩ := hinv
        obtain ⟨u80, hinv⟩ := hinv
        obtain ⟨u81, hinv⟩ := hinv
        obtain ⟨u82, hinv⟩ := hinv
        obtain ⟨u83, hinv⟩ := hinv
        obtain ⟨u84, hinv⟩ := hinv
        obtain ⟨u85, hinv⟩ := hinv
        obtain ⟨u86, hinv⟩ := hinv
        obtain ⟨u87, hinv⟩ := hinv
        obtain ⟨u88, hinv⟩ := hinv
        obtain ⟨u89, hinv⟩ := hinv
        obtain ⟨u90, hinv⟩ := hinv
        obtain ⟨u91, hinv⟩ := hinv
        obtain ⟨u92, hinv⟩ := hinv
        obtain ⟨u93, hinv⟩ := hinv
        obtain ⟨u94, hinv⟩ := hinv
        obtain ⟨u95, hinv⟩ := hinv
        obtain ⟨u96, hinv⟩ := hinv
        obtain ⟨u97, hinv⟩ := hinv
        obtain ⟨u98, hinv⟩ := hinv
        obtain ⟨u99, hinv⟩ := hinv
        obtain ⟨u100, hinv⟩ := hinv
        obtain ⟨u101, hinv⟩ := hinv
        obtain ⟨u102, hinv⟩ := hinv
        obtain ⟨u103, hinv⟩ := hinv
        obtain ⟨u104, hinv⟩ := hinv
        obtain ⟨u105, hinv⟩ := hinv
        obtain ⟨u106, hinv⟩ := hinv
        obtain ⟨u107, hinv⟩ := hinv
        obtain ⟨u108, hinv⟩ := hinv
        obtain ⟨u109, hinv⟩ := hinv
        obtain ⟨u110, hinv⟩ := hinv
        obtain ⟨u111, hinv⟩ := hinv
        obtain ⟨u112, hinv⟩ := hinv
        obtain ⟨u113, hinv⟩ := hinv
        obtain ⟨u114, hinv⟩ := hinv
        obtain ⟨u115, hinv⟩ := hinv
        obtain ⟨u116, hinv⟩ := hinv
        obtain ⟨u117, hinv⟩ := hinv
        obtain ⟨u118, hinv⟩ := hinv
        obtain ⟨u119, hinv⟩ := hinv
        obtain ⟨u120, hinv⟩ := hinv
        obtain ⟨u121, hinv⟩ := hinv
        obtain ⟨u122, hinv⟩ := hinv
        obtain ⟨u123, hinv⟩ := hinv
        obtain ⟨u124, hinv⟩ := hinv
        obtain ⟨u125, hinv⟩ := hinv
        obtain ⟨u126, hinv⟩ := hinv
        obtain ⟨u127, hinv⟩ := hinv
        obtain ⟨u128, hinv⟩ := hinv
        obtain ⟨u129, hinv⟩ := hinv
        obtain ⟨u130, hinv⟩ := hinv
        obtain ⟨u131, hinv⟩ := hinv
        obtain ⟨u132, hinv⟩ := hinv
        obtain ⟨u133, hinv⟩ := hinv
        obtain ⟨u134, hinv⟩ := hinv
        obtain ⟨u135, hinv⟩ := hinv
        obtain ⟨u136, hinv⟩ := hinv
        obtain ⟨u137, hinv⟩ := hinv
        obtain ⟨u138, hinv⟩ := hinv
        obtain ⟨u139, hinv⟩ := hinv
        obtain ⟨u140, hinv⟩ := hinv
        obtain ⟨u141, hinv⟩ := hinv
        obtain ⟨u142, hinv⟩ := hinv
        obtain ⟨u143, hinv⟩ := hinv
        obtain ⟨u144, hinv⟩ := hinv
        obtain ⟨u145, hinv⟩ := hinv
        obtain ⟨u146, hinv⟩ := hinv
        obtain ⟨u147, hinv⟩ := hinv
        obtain ⟨u148, hinv⟩ := hinv
        obtain ⟨u149, hinv⟩ := hinv
        obtain ⟨u150, hinv⟩ := hinv
        obtain ⟨u151, hinv⟩ := hinv
        obtain ⟨u152, hinv⟩ := hinv
        obtain ⟨u153, hinv⟩ := hinv
        obtain ⟨u154, hinv⟩ := hinv
        obtain ⟨u155, hinv⟩ := hinv
        obtain ⟨u156, hinv⟩ := hinv
        obtain ⟨u157, hinv⟩ := hinv
        obtain ⟨u158, hinv⟩ := hinv
        obtain ⟨u159, hinv⟩ := hinv
        obtain ⟨u160, hinv⟩ := hinv
        obtain ⟨u161, hinv⟩ := hinv
        obtain ⟨u162, hinv⟩ := hinv
        obtain ⟨u163, hinv⟩ := hinv
        obtain ⟨u164, hinv⟩ := hinv
        obtain ⟨u165, hinv⟩ := hinv
        obtain ⟨u166, hinv⟩ := hinv
        obtain ⟨u167, hinv⟩ := hinv
        obtain ⟨u168, hinv⟩ := hinv
        obtain ⟨u169, hinv⟩ := hinv
        obtain ⟨u170, hinv⟩ := hinv
        obtain ⟨u171, hinv⟩ := hinv
        obtain ⟨u172, hinv⟩ := hinv
        obtain ⟨u173, hinv⟩ := hinv
        obtain ⟨u174, hinv⟩ := hinv
        obtain ⟨u175, hinv⟩ := hinv
        obtain ⟨u176, hinv⟩ := hinv
        obtain ⟨u177, hinv⟩ := hinv
        obtain ⟨u178, hinv⟩ := hinv
        obtain ⟨u179, hinv⟩ := hinv
        obtain ⟨u180, hinv⟩ := hinv
        obtain ⟨u181, hinv⟩ := hinv
        obtain ⟨u182, hinv⟩ := hinv
        obtain ⟨u183, hinv⟩ := hinv
        obtain ⟨u184, hinv⟩ := hinv
        obtain ⟨u185, hinv⟩ := hinv
        obtain ⟨u186, hinv⟩ := hinv
        obtain ⟨u187, hinv⟩ := hinv
        obtain ⟨u188, hinv⟩ := hinv
        obtain ⟨u189, hinv⟩ := hinv
        obtain ⟨u190, hinv⟩ := hinv
        obtain ⟨u191, hinv⟩ := hinv
        obtain ⟨u192, hinv⟩ := hinv
        obtain ⟨u193, hinv⟩ := hinv
        obtain ⟨u194, hinv⟩ := hinv
        obtain ⟨u195, hinv⟩ := hinv
        obtain ⟨u196, hinv⟩ := hinv
        obtain ⟨u197, hinv⟩ := hinv
        obtain ⟨u198, hinv⟩ := hinv
        obtain ⟨u199, hinv⟩ := hinv
        obtain ⟨u200, hinv⟩ := hinv
        obtain ⟨u201, hinv⟩ := hinv
        obtain ⟨u202, hinv⟩ := hinv
        obtain ⟨u203, hinv⟩ := hinv
        obtain ⟨u204, hinv⟩ := hinv
        obtain ⟨u205, hinv⟩ := hinv
        obtain ⟨u206, hinv⟩ := hinv
        obtain ⟨u207, hinv⟩ := hinv
        obtain ⟨u208, hinv⟩ := hinv
        obtain ⟨u209, hinv⟩ := hinv
        obtain ⟨u210, hinv⟩ := hinv
        obtain ⟨u211, hinv⟩ := hinv
        obtain ⟨u212, hinv⟩ := hinv
        obtain ⟨u213, hinv⟩ := hinv
        obtain ⟨u214, hinv⟩ := hinv
        obtain ⟨u215, hinv⟩ := hinv
        obtain ⟨u216, hinv⟩ := hinv
        obtain ⟨u217, hinv⟩ := hinv
        obtain ⟨u218, hinv⟩ := hinv
        obtain ⟨u219, hinv⟩ := hinv
        obtain ⟨u220, hinv⟩ := hinv
        obtain ⟨u221, hinv⟩ := hinv
        obtain ⟨u222, hinv⟩ := hinv
        obtain ⟨u223, hinv⟩ := hinv
        obtain ⟨u224, hinv⟩ := hinv
        obtain ⟨u225, hinv⟩ := hinv
        obtain ⟨u226, hinv⟩ := hinv
        obtain ⟨u227, hinv⟩ := hinv
        obtain ⟨u228, hinv⟩ := hinv
        obtain ⟨u229, hinv⟩ := hinv
        obtain ⟨u230, hinv⟩ := hinv
        obtain ⟨u231, hinv⟩ := hinv
        obtain ⟨u232, hinv⟩ := hinv
        obtain ⟨u233, hinv⟩ := hinv
        obtain ⟨u234, hinv⟩ := hinv
        obtain ⟨u235, hinv⟩ := hinv
        obtain ⟨u236, hinv⟩ := hinv
        obtain ⟨u237, hinv⟩ := hinv
        obtain ⟨u238, hinv⟩ := hinv
        obtain ⟨u239, hinv⟩ := hinv
        obtain ⟨u240, hinv⟩ := hinv
        obtain ⟨u241, hinv⟩ := hinv
        obtain ⟨u242, hinv⟩ := hinv
        obtain ⟨u243, hinv⟩ := hinv
        obtain ⟨u244, hinv⟩ := hinv
        obtain ⟨u245, hinv⟩ := hinv
        obtain ⟨u246, hinv⟩ := hinv
        obtain ⟨u247, hinv⟩ := hinv
        obtain ⟨u248, hinv⟩ := hinv
        obtain ⟨u249, hinv⟩ := hinv
        obtain ⟨u250, hinv⟩ := hinv
        obtain ⟨u251, hinv⟩ := hinv
        obtain ⟨u252, hinv⟩ := hinv
        obtain ⟨u253, hinv⟩ := hinv
        obtain ⟨u254, hinv⟩ := hinv
        obtain ⟨u255, hinv⟩ := hinv
        obtain ⟨u256, hinv⟩ := hinv
        obtain ⟨u257, hinv⟩ := hinv
        obtain ⟨u258, hinv⟩ := hinv
        obtain ⟨u259, hinv⟩ := hinv
        obtain ⟨u260, hinv⟩ := hinv
        obtain ⟨u261, hinv⟩ := hinv
        obtain ⟨u262, hinv⟩ := hinv
        obtain ⟨u263, hinv⟩ := hinv
        obtain ⟨u264, hinv⟩ := hinv
        obtain ⟨u265, hinv⟩ := hinv
        obtain ⟨ds, hrel, ha⟩ := hinv
        subst ha
        obtain ⟨j, L, O, P, Ds, hj, rfl, rfl, HNd, HJ⟩ := hrel
        by_cases hlt : j < l
        · obtain ⟨A, hAj⟩ : ∃ A, As[j]? = some A := ⟨_, List.getElem?_eq_getElem (by rw [HA.out.len]; exact hlt)⟩
          have hmem := List.mem_of_getElem? hAj
          have HOk := Lib.hid (HA.out.ok A hmem)
          obtain ⟨b, o, hs, c0, c1, c2, c3, c4, c5⟩ := HA.out.at HJ.out.f.grown hAj
          subst hs
          obtain ⟨Y, hY⟩ : ∃ Y, wr.heap.size = Y := ⟨_, rfl⟩
          have HR := Lib.hid (HJ.out.box HT.out.toStOkO (o := oactObj A) hY)
          obtain ⟨B, hB⟩ : ∃ B, Ds.map dfO ++ aB y a0 a1 a2 = B := ⟨_, rfl⟩
          have HBe := Lib.hid hB
          have hma : (y, askO a0 a1 a2) ∈ B := by rw [← hB]; exact List.mem_append_right _ (by simp [aB])
          rw [hB] at HR
          have HMa := Lib.hid hma
          have hmd : ∀ E, E ∈ Ds → dfO E ∈ B := fun E hE => by rw [← hB]; exact List.mem_append_left _ (List.mem_map.2 ⟨E, hE, rfl⟩)
          have HMd := Lib.hid hmd
          clear hAj hmem HJ hma hB hmd
          obtain ⟨ak, ai, aa, pf, ps, pd⟩ := A
          unfold oactObj at HR
          simp only at c0 c1 c2 c3 c4 c5 HR
          generalize hwB : wr.alloc (.cells #[.int .i64 ak, .int .i64 ai, .int .i64 aa, .int .i64 pf, .int .i64 ps, .bool pd] 32 (0, 0)) = wB at *
          obtain ⟨b0, b1, b2, b3, b4, b5⟩ := oact_at (A := ⟨ak, ai, aa, ⟨pf, ps, pd⟩⟩) (HR.out.f.at (List.mem_cons_self ..))
          simp only at b0 b1 b2 b3 b4 b5
          go_upto_block 2 with fail
          clear c0 c1 c2 c3 c4 c5 hwB
          rename_i K hK
          have tail : ∀ (u12 u13 u14 u15 u16 u17 u18 u19 u54 u55 u56 u57 u58 u59 u60 u61 u62 u63 u64 u65 u66 u67 u68 u69 u70 u71 u72 u73 u74 u75 u76 u77 u78 u79 u80 u81 u82 u83 u84 u85 u86 u87 u88 u89 u90 u91 u92 u93 u94 u95 u96 u97 u98 u99 u100 u101 u102 u103 u104 u105 u106 u107 u108 u109 u110 u111 u112 u113 u114 u115 u116 u117 u118 u119 u120 u121 u122 u123 u124 u125 u126 u127 u128 u129 u130 u131 u132 u133 u134 u135 u136 u137 u138 u139 : Value) (wx : World) (L' : ObL) (O' P' : List Nat), Hid (AXO D w wx p q n L' L' O' P' ((Y, oactObj ⟨ak, ai, aa, ⟨pf, ps, pd⟩⟩) :: B)) → K { tmps := #[.int .i64 (n : Int), .slice (some ⟨b, o, none⟩) l c, .agg #[.int .i64 a0, .int .i64 a1, .int .i64 a2], undef, undef, .pointer (some ⟨y, 0, none⟩), .pointer (some ⟨y + 1, 0, none⟩), .pointer (some ⟨p, 0, none⟩), .pointer (some ⟨q, 0, none⟩), undef, .pointer (some ⟨Y, 0, none⟩), .bool true, u12, u13, u14, u15, u16, u17, u18, u19, u20, u21, u22, u23, u24, u25, u26, u27, u28, .int .i64 (n : Int), .pointer (some ⟨p, 0, none⟩), .int .i64 (n : Int), .pointer (some ⟨q, 0, none⟩), .pointer (some ⟨p, 0, none⟩), .bool false, .pointer (some ⟨q, 0, none⟩), .bool false, .bool false, .pointer (some ⟨q, 0, none⟩), .bool false, .bool false, .slice (some ⟨b, o, none⟩) l c, .int .i64 (l : Int), .bool false, .bool false, undef, .slice (some ⟨b, o, none⟩) l c, .int .i64 (l : Int), .int .i64 (j : Int), .bool true, .pointer (some ⟨b, o + j * 6, none⟩), .agg #[.int .i64 ak, .int .i64 ai, .int .i64 aa, .int .i64 pf, .int .i64 ps, .bool pd], .pointer (some ⟨Y, 0, none⟩), .int .i64 ak, u54, u55, u56, u57, u58, u59, u60, u61, u62, u63, u64, u65, u66, u67, u68, u69, u70, u71, u72, u73, u74, u75, u76, u77, u78, u79, u80, u81, u82, u83, u84, u85, u86, u87, u88, u89, u90, u91, u92, u93, u94, u95, u96, u97, u98, u99, u100, u101, u102, u103, u104, u105, u106, u107, u108, u109, u110, u111, u112, u113, u114, u115, u116, u117, u118, u119, u120, u121, u122, u123, u124, u125, u126, u127, u128, u129, u130, u131, u132, u133, u134, u135, u136, u137, u138, u139, u140, u141, u142, u143, u144, u145, u146, u147, u148, u149, u150, u151, u152, u153, u154, u155, u156, u157, u158, u159, u160, u161, u162, u163, u164, u165, u166, u167, u168, u169, u170, u171, u172, u173, u174, u175, u176, u177, u178, u179, u180, u181, u182, u183, u184, u185, u186, u187, u188, u189, u190, u191, u192, u193, u194, u195, u196, u197, u198, u199, u200, u201, u202, u203, u204, u205, u206, u207, u208, u209, u210, u211, u212, u213, u214, u215, u216, u217, u218, u219, u220, u221, u222, u223, u224, u225, u226, u227, u228, u229, u230, u231, u232, u233, u234, u235, u236, u237, u238, u239, u240, u241, u242, u243, u244, u245, u246, u247, u248, u249, u250, u251, u252, u253, u254, u255, u256, u257, u258, u259, u260, u261, u262, u263, u264, u265, undef], defers := marks Ds } wx := by
            as_aux_lemma =>
            intro u12 u13 u14 u15 u16 u17 u18 u19 u54 u55 u56 u57 u58 u59 u60 u61 u62 u63 u64 u65 u66 u67 u68 u69 u70 u71 u72 u73 u74 u75 u76 u77 u78 u79 u80 u81 u82 u83 u84 u85 u86 u87 u88 u89 u90 u91 u92 u93 u94 u95 u96 u97 u98 u99 u100 u101 u102 u103 u104 u105 u106 u107 u108 u109 u110 u111 u112 u113 u114 u115 u116 u117 u118 u119 u120 u121 u122 u123 u124 u125 u126 u127 u128 u129 u130 u131 u132 u133 u134 u135 u136 u137 u138 u139 wx L' O' P' HX
            clear HR b0 b1 b2 b3 b4 b5
            apply hK
            clear hK
            obtain ⟨z0, z1, z2, z3, z4, z5⟩ := oact_at (y := Y) (A := ⟨ak, ai, aa, ⟨pf, ps, pd⟩⟩) (HX.out.f.at (List.mem_cons_self ..))
            simp only at z0 z1 z2 z3 z4 z5
            have hgd := HT.out.good HX.out.two.one.d
            have hil : (idsO L').length ≤ 4096 := Nat.le_trans (show (idsO L').length ≤ L'.length from idsOTo_le) (Nat.le_trans hgd.len hgd.most)
            have hzl := pages_len hgd ai a0 a1
            clear hgd
            have hk := HT.out.get HX.out.two.one.d ai aa HOk.out.id HOk.out.a
            obtain ⟨x, bb, hx⟩ : ∃ (x : PgV) (bb : Bool), getVO (getO L' ai aa) = .tuple #[.agg #[.int .i64 x.fr, .int .i64 x.sl, .bool x.d], .bool bb] := by
              cases getO L' ai aa with
              | none => exact ⟨zeroP, false, rfl⟩
              | some x => exact ⟨x, true, rfl⟩
            rw [hx] at hk
            have HK := Lib.hid hk
            have HXe := Lib.hid hx
            clear hk hx
            go_wp2_with fail
            refine HK.out.mono ?_
            rintro e w4 ⟨rfl, g4⟩
            obtain ⟨X1, hX1⟩ : ∃ X1, w4.heap.size = X1 := ⟨_, rfl⟩
            have h4 := (HX.out.grow HT.out.toStOkO g4).box HT.out.toStOkO (o := pgO 30 x) hX1
            have hk := rd_get h4.two.two.d ai aa HOk.out.id
            rw [HXe.out] at hk
            have HK2 := Lib.hid hk
            obtain ⟨b0, b1, b2, b3, b4, b5⟩ := oact_at (y := Y) (A := ⟨ak, ai, aa, ⟨pf, ps, pd⟩⟩) (h4.f.at (by simp))
            simp only at b0 b1 b2 b3 b4 b5
            have H4 := Lib.hid h4
            unfold pgO at b0 b1 b2 b3 b4 b5 HK2
            clear hk h4 g4 HK HX z0 z1 z2 z3 z4 z5
            go_wp2_with fail
            refine HK2.out.mono ?_
            rintro e w6 ⟨rfl, g6⟩
            obtain ⟨X2, hX2⟩ : ∃ X2, w6.heap.size = X2 := ⟨_, rfl⟩
            have h6 := (H4.out.grow HT.out.toStOkO g6).box HT.out.toStOkO (o := pgO 42 x) hX2
            have HB := Lib.hid (h6.grow HT.out.toStOkO (grown_drew1 _))
            have hkd := kd14 HB.out.f
            simp only at hkd
            have hne := fun W => neq_pg W x.fr x.sl x.d x.fr x.sl x.d
            simp only [and_self, decide_true, Bool.not_true] at hne
            unfold pgO at hkd
            clear g6 h6 H4 HK2 HXe b0 b1 b2 b3 b4 b5
            subst hX2
            subst hX1
            go_upto_region 25 with fail
            rename_i K2 hK2
            have tail2 : ∀ (u20 u21 u22 u23 u140 u141 u142 u143 u144 u145 u146 u147 u148 u149 u150 u151 u152 u153 u154 u155 u156 u157 u158 u159 u160 u161 u162 u163 u164 u165 u166 u167 u168 u169 u170 u171 u172 u173 u174 u175 u176 u177 u178 u179 u180 u181 u182 u183 u184 u185 u186 u187 u188 u189 u190 u191 u192 u193 u194 u195 u196 u197 u198 : Value) (wz : World), Hid (AXO D w wz p q n L' L' O' P' ((Y, oactObj ⟨ak, ai, aa, ⟨pf, ps, pd⟩⟩) :: B)) → K2 { tmps := #[.int .i64 (n : Int), .slice (some ⟨b, o, none⟩) l c, .agg #[.int .i64 a0, .int .i64 a1, .int .i64 a2], undef, undef, .pointer (some ⟨y, 0, none⟩), .pointer (some ⟨y + 1, 0, none⟩), .pointer (some ⟨p, 0, none⟩), .pointer (some ⟨q, 0, none⟩), undef, .pointer (some ⟨Y, 0, none⟩), .bool true, u12, u13, u14, u15, u16, u17, u18, u19, u20, u21, u22, u23, u24, u25, u26, u27, u28, .int .i64 (n : Int), .pointer (some ⟨p, 0, none⟩), .int .i64 (n : Int), .pointer (some ⟨q, 0, none⟩), .pointer (some ⟨p, 0, none⟩), .bool false, .pointer (some ⟨q, 0, none⟩), .bool false, .bool false, .pointer (some ⟨q, 0, none⟩), .bool false, .bool false, .slice (some ⟨b, o, none⟩) l c, .int .i64 (l : Int), .bool false, .bool false, undef, .slice (some ⟨b, o, none⟩) l c, .int .i64 (l : Int), .int .i64 (j : Int), .bool true, .pointer (some ⟨b, o + j * 6, none⟩), .agg #[.int .i64 ak, .int .i64 ai, .int .i64 aa, .int .i64 pf, .int .i64 ps, .bool pd], .pointer (some ⟨Y, 0, none⟩), .int .i64 ak, u54, u55, u56, u57, u58, u59, u60, u61, u62, u63, u64, u65, u66, u67, u68, u69, u70, u71, u72, u73, u74, u75, u76, u77, u78, u79, u80, u81, u82, u83, u84, u85, u86, u87, u88, u89, u90, u91, u92, u93, u94, u95, u96, u97, u98, u99, u100, u101, u102, u103, u104, u105, u106, u107, u108, u109, u110, u111, u112, u113, u114, u115, u116, u117, u118, u119, u120, u121, u122, u123, u124, u125, u126, u127, u128, u129, u130, u131, u132, u133, u134, u135, u136, u137, u138, u139, u140, u141, u142, u143, u144, u145, u146, u147, u148, u149, u150, u151, u152, u153, u154, u155, u156, u157, u158, u159, u160, u161, u162, u163, u164, u165, u166, u167, u168, u169, u170, u171, u172, u173, u174, u175, u176, u177, u178, u179, u180, u181, u182, u183, u184, u185, u186, u187, u188, u189, u190, u191, u192, u193, u194, u195, u196, u197, u198, .bool false, u200, u201, u202, u203, u204, u205, u206, u207, u208, u209, u210, u211, u212, u213, u214, u215, u216, u217, u218, u219, u220, u221, u222, u223, u224, u225, u226, u227, u228, u229, u230, u231, u232, u233, u234, u235, u236, u237, u238, u239, u240, u241, u242, u243, u244, u245, u246, u247, u248, u249, u250, u251, u252, u253, u254, u255, u256, u257, u258, u259, u260, u261, u262, u263, u264, u265, undef], defers := marks Ds } wz := by
              as_aux_lemma =>
              intro u20 u21 u22 u23 u140 u141 u142 u143 u144 u145 u146 u147 u148 u149 u150 u151 u152 u153 u154 u155 u156 u157 u158 u159 u160 u161 u162 u163 u164 u165 u166 u167 u168 u169 u170 u171 u172 u173 u174 u175 u176 u177 u178 u179 u180 u181 u182 u183 u184 u185 u186 u187 u188 u189 u190 u191 u192 u193 u194 u195 u196 u197 u198 wz HX2
              clear HB hkd hne
              apply hK2
              obtain ⟨b0, b1, b2, b3, b4, b5⟩ := oact_at (y := Y) (A := ⟨ak, ai, aa, ⟨pf, ps, pd⟩⟩) (HX2.out.f.at (List.mem_cons_self ..))
              simp only at b0 b1 b2 b3 b4 b5
              obtain ⟨d0, d1, d2⟩ := ask_at HX2.out.f (List.mem_cons_of_mem _ HMa.out)
              obtain ⟨zs, hzs⟩ : ∃ zs, pagesO L' ai a0 a1 = zs := ⟨_, rfl⟩
              rw [hzs] at hzl
              have hk := rd_pages HX2.out.two.two.d ai a0 a1 HOk.out.id
              rw [hzs] at hk
              have HK := Lib.hid hk
              have HZs := Lib.hid hzs
              clear hk hzs hK2
              go_wp2_with fail
              refine HK.out.mono ?_
              rintro e w14 ⟨u, rfl, hu, huo, g4⟩
              obtain ⟨su, cu, rfl⟩ := rowOf_form hu
              have h4 := (HX2.out.grow HT.out.toStOkO g4).box HT.out.toStOkO (o := .cells #[.slice su zs.length cu] 52) rfl
              have HU4 := Lib.hid (rowOf_grow hu (World.grownBy_alloc w14 (.cells #[.slice su zs.length cu] 52) none))
              have hk := HT.out.pages h4.two.one.d ai a0 a1 HOk.out.id
              rw [HZs.out] at hk
              have HK2 := Lib.hid hk
              obtain ⟨b0, b1, b2, b3, b4, b5⟩ := oact_at (y := Y) (A := ⟨ak, ai, aa, ⟨pf, ps, pd⟩⟩) (h4.f.at (List.mem_cons_of_mem _ (List.mem_cons_self ..)))
              simp only at b0 b1 b2 b3 b4 b5
              obtain ⟨d0, d1, d2⟩ := ask_at h4.f (List.mem_cons_of_mem _ (List.mem_cons_of_mem _ HMa.out))
              have H4 := Lib.hid h4
              clear hk h4 g4 hu huo HK HX2
              go_wp2_with fail
              refine HK2.out.mono ?_
              rintro e wa ⟨Bs, u2, rfl, hBs, hr, ho, hB, ga⟩
              have g5 := World.grownBy_alloc wa (.cells #[.int .i64 0] 3) none
              have h5 := H4.out.grow HT.out.toStOkO ga
              have h6 := h5.grow HT.out.toStOkO g5
              have hk6 : (wa.alloc (.cells #[.int .i64 0] 3)).heap[wa.heap.size]? = some (iI 0) := heap_alloc_new _ _
              have hO4 : ∀ b, b ∈ O' → b < wa.heap.size := fun b hb => HT.out.lt h5.two.one.d b hb
              have hP4 : ∀ b, b ∈ P' → b < wa.heap.size := fun b hb => droOk.lt h5.two.two.d b hb
              have hB4 : ∀ b, b ∈ ((w14.heap.size, .cells #[.slice su zs.length cu] 52) :: (Y, oactObj ⟨ak, ai, aa, ⟨pf, ps, pd⟩⟩) :: B) → b.1 < wa.heap.size := fun b hb => h5.f.lt hb
              have hu5 := rowOf_grow HU4.out ga
              have hul : ∀ b, (Value.slice su zs.length cu).ownBlock = some b → b < wa.heap.size := fun b hb => row_lt hu5 hb
              have hu2l : ∀ b, u2.ownBlock = some b → b < wa.heap.size := fun b hb => row_lt hr hb
              have hw4 : w.heap.size ≤ wa.heap.size := h5.f.grown.size
              have hsz : (wa.alloc (.cells #[.int .i64 0] 3)).heap.size = wa.heap.size + 1 := World.size_alloc _ _
              have H9 := Lib.hid (show AKW D w (wa.alloc (.cells #[.int .i64 0] 3)) p q n L' O' P' ((w14.heap.size, .cells #[.slice su zs.length cu] 52) :: (Y, oactObj ⟨ak, ai, aa, ⟨pf, ps, pd⟩⟩) :: B) wa.heap.size 0 (.slice su zs.length cu) zs from ⟨h6, hk6, rowOf_grow hu5 g5, hw4, fun h => by have := hO4 _ h; omega, fun h => by have := hP4 _ h; omega, fun b hb e => by have := hB4 b hb; omega, fun e => by have := hul _ e; omega⟩)
              have HH := Lib.hid (show (∀ b, b ∈ O' → b < (wa.alloc (.cells #[.int .i64 0] 3)).heap.size) ∧ (∀ b, b ∈ P' → b < (wa.alloc (.cells #[.int .i64 0] 3)).heap.size) ∧ (∀ b, b ∈ ((w14.heap.size, .cells #[.slice su zs.length cu] 52) :: (Y, oactObj ⟨ak, ai, aa, ⟨pf, ps, pd⟩⟩) :: B) → b.1 < (wa.alloc (.cells #[.int .i64 0] 3)).heap.size) ∧ wa.heap.size < (wa.alloc (.cells #[.int .i64 0] 3)).heap.size ∧ (∀ b, (Value.slice su zs.length cu).ownBlock = some b → b < (wa.alloc (.cells #[.int .i64 0] 3)).heap.size) from
                ⟨fun b hb => by have := hO4 b hb; omega, fun b hb => by have := hP4 b hb; omega, fun b hb => by have := hB4 b hb; omega, by omega, fun b hb => by have := hul b hb; omega⟩)
              have HU2 := Lib.hid hu2l
              have HBs := Lib.hid (g5.cell hBs (by simp))
              have HR2 := Lib.hid (rowOf_grow hr g5)
              have HMr := Lib.hid (show (y + 1, rB false) ∈ B by rw [← HBe.out]; exact List.mem_append_right _ (by simp [aB]))
              clear hBs hr ho hB ga g5 h5 h6 hk6 hO4 hP4 hB4 hu5 hul hu2l hw4 hsz HU4 HK2 H4 HZs b0 b1 b2 b3 b4 b5 d0 d1 d2
              go_wp2_with fail
              generalize wa.alloc (.cells #[.int .i64 0] 3) = W5 at *
              generalize wa.heap.size = X4 at *
              generalize w14.heap.size = X3 at *
              refine (wpIn_wide (n := 9)).1 ?_
              refine wpIn_rangeFunc_ownH rfl (by omega) (gf := 40) (lb := #[.pointer (some ⟨Bs, 0, none⟩)]) rfl trivial (enters_of Try.func40 (by kernel_rfl) rfl)
                (pages1_stops 8 (by omega) Bs u2 zs hzl u2.ownBlock.toList (fun g e => by rw [e]; simp) W5 HBs.out HR2.out) (fun h k => kpG_t h k) (fun W l o o' hl ho hc _ => kpG_b (B := W5.heap.size) (fun k hk => row_lt HR2.out (by simpa using hk)) W l o' hl) (Below.refl _ _) (fun _ => rfl)
                (fun pre W => AKW D w W p q n L' O' P' ((X3, .cells #[.slice su zs.length cu] 52) :: (Y, oactObj ⟨ak, ai, aa, ⟨pf, ps, pd⟩⟩) :: B) X4 (pre.length : Int) (.slice su zs.length cu) zs ∧ pre <+: zs ∧ W5.heap.size ≤ W.heap.size)
                (fun cx xs W => (cx = .ret ∧ ¬ xs <+: zs) ∨ (cx = .exit 3 ∧ AKW D w W p q n L' O' P' ((X3, .cells #[.slice su zs.length cu] 52) :: (Y, oactObj ⟨ak, ai, aa, ⟨pf, ps, pd⟩⟩) :: B) X4 a2 (.slice su zs.length cu) zs ∧ 0 ≤ a2 ∧ a2 < (zs.length : Int)))
                (fun s A9 B9 row hs hg hr => ⟨hs.1.turn HT.out.toStOkO HH.out.1 HH.out.2.1 HH.out.2.2.1 HH.out.2.2.2.1 HH.out.2.2.2.2 hg fun r e => (hr r e).1, hs.2.1, Nat.le_trans hs.2.2 hg.size⟩)
                (fun cx s A9 B9 row hs hg hr => hs.imp (fun h => h) fun h => ⟨h.1, h.2.1.turn HT.out.toStOkO HH.out.1 HH.out.2.1 HH.out.2.2.1 HH.out.2.2.2.1 HH.out.2.2.2.2 hg (fun r e => (hr r e).1), h.2.2⟩)
                ⟨H9.out, List.nil_prefix, Nat.le_refl _⟩
                (fun x a' W => ∃ Be, W5.heap.size ≤ Be ∧ W.heap[Be]? = some (pgO 30 x.2) ∧ a' = { tmps := #[.int .i64 (n : Int), .slice (some ⟨b, o, none⟩) l c, .agg #[.int .i64 a0, .int .i64 a1, .int .i64 a2], undef, undef, .pointer (some ⟨y, 0, none⟩), .pointer (some ⟨y + 1, 0, none⟩), .pointer (some ⟨p, 0, none⟩), .pointer (some ⟨q, 0, none⟩), undef, .pointer (some ⟨Y, 0, none⟩), .bool true, u12, u13, u14, u15, u16, u17, u18, u19, u20, u21, u22, u23, .pointer (some ⟨X3, 0, none⟩), .func (.func 40) #[] #[.pointer (some ⟨Bs, 0, none⟩)], .pointer (some ⟨X4, 0, none⟩), .int .i64 x.1, .pointer (some ⟨Be, 0, none⟩), .int .i64 (n : Int), .pointer (some ⟨p, 0, none⟩), .int .i64 (n : Int), .pointer (some ⟨q, 0, none⟩), .pointer (some ⟨p, 0, none⟩), .bool false, .pointer (some ⟨q, 0, none⟩), .bool false, .bool false, .pointer (some ⟨q, 0, none⟩), .bool false, .bool false, .slice (some ⟨b, o, none⟩) l c, .int .i64 (l : Int), .bool false, .bool false, undef, .slice (some ⟨b, o, none⟩) l c, .int .i64 (l : Int), .int .i64 (j : Int), .bool true, .pointer (some ⟨b, o + j * 6, none⟩), .agg #[.int .i64 ak, .int .i64 ai, .int .i64 aa, .int .i64 pf, .int .i64 ps, .bool pd], .pointer (some ⟨Y, 0, none⟩), .int .i64 ak, u54, u55, u56, u57, u58, u59, u60, u61, u62, u63, u64, u65, u66, u67, u68, u69, u70, u71, u72, u73, u74, u75, u76, u77, u78, u79, u80, u81, u82, u83, u84, u85, u86, u87, u88, u89, u90, u91, u92, u93, u94, u95, u96, u97, u98, u99, u100, u101, u102, u103, u104, u105, u106, u107, u108, u109, u110, u111, u112, u113, u114, u115, u116, u117, u118, u119, u120, u121, u122, u123, u124, u125, u126, u127, u128, u129, u130, u131, u132, u133, u134, u135, u136, u137, u138, u139, u140, u141, u142, u143, u144, u145, u146, u147, u148, u149, u150, u151, u152, u153, u154, u155, u156, u157, u158, u159, u160, u161, u162, u163, u164, u165, u166, u167, u168, u169, u170, u171, u172, u173, u174, u175, u176, u177, u178, u179, u180, u181, u182, u183, u184, u185, u186, u187, u188, u189, u190, u191, u192, u193, u194, u195, u196, u197, u198, .bool false, .pointer (some ⟨q, 0, none⟩), .pointer (some ⟨Y, 1, none⟩), .int .i64 ai, .pointer (some ⟨y, 0, none⟩), .int .i64 a0, .pointer (some ⟨y, 1, none⟩), .int .i64 a1, .slice su zs.length cu, .pointer (some ⟨p, 0, none⟩), .pointer (some ⟨Y, 1, none⟩), .int .i64 ai, .pointer (some ⟨y, 0, none⟩), .int .i64 a0, .pointer (some ⟨y, 1, none⟩), .int .i64 a1, .func (.func 40) #[] #[.pointer (some ⟨Bs, 0, none⟩)], .func (.func 40) #[] #[.pointer (some ⟨Bs, 0, none⟩)], .bool false, .func (.func 40) #[] #[.pointer (some ⟨Bs, 0, none⟩)], .int .i64 x.1, pgAgg x.2, u221, u222, u223, u224, u225, u226, u227, u228, u229, u230, u231, u232, u233, u234, u235, u236, u237, u238, u239, u240, u241, u242, u243, u244, u245, u246, u247, u248, u249, u250, u251, u252, u253, u254, u255, u256, u257, u258, u259, u260, u261, u262, u263, u264, u265, undef], defers := [] })
                (fun x a' _ A9 B9 row hs hg hr => by
                  obtain ⟨Be, h1, h2, h3⟩ := hs
                  refine ⟨Be, h1, (hg.block Be (Array.getElem?_eq_some_iff.1 h2).1 (fun e => ?_)).trans h2, h3⟩
                  obtain ⟨o, ho, hc⟩ := (hr Be e.symm).2
                  rw [h2] at ho
                  cases ho
                  cases hc)
                ?assign ?body ?done ?stop
              case assign =>
                rintro ll pre ⟨k, ⟨fr, sl, d⟩⟩ Wd K ⟨hJ, hp, hsz⟩ hK
                have ga := World.grownBy_alloc Wd (.cells #[.int .i64 fr, .int .i64 sl, .bool d] 30 (0, 0)) none
                have hkp : KpG u2.ownBlock.toList Wd (Wd.alloc (.cells #[.int .i64 fr, .int .i64 sl, .bool d] 30 (0, 0))) := fun k hk => ga.block k (Nat.lt_of_lt_of_le (row_lt HR2.out (by simpa using hk)) hsz) (by simp)
                unfold encP pgAgg
                gi_wp2
                exact hK _ _ ((KeepsOthers.alloc _ _).from _) hkp ⟨hJ.grow HT.out.toStOkO ga, hp, Nat.le_trans hsz ga.size⟩ ⟨Wd.heap.size, hsz, heap_alloc_new Wd _, rfl⟩
              case body =>
                rintro ll pre ⟨k, ⟨fr, sl, d⟩⟩ a' Wd hlw hlp ⟨hJ, hp, hsz⟩ ⟨Be, hBe, hE, rfl⟩ hlt2
                obtain ⟨e0, e1, e2⟩ := pg_at (x := ⟨fr, sl, d⟩) hE
                simp only at e0 e1 e2
                obtain ⟨d0, d1, d2⟩ := ask_at hJ.x.f (List.mem_cons_of_mem _ (List.mem_cons_of_mem _ HMa.out))
                have e3 := one_at (hJ.x.f.at (List.mem_cons_self ..))
                obtain ⟨e4, f4⟩ := num_at hJ.k
                have HJ := Lib.hid hJ
                have HP := Lib.hid hp
                simp only [pgAgg]
                by_cases hm : (pre.length : Int) = a2
                · have hmb : ((pre.length : Int) == a2) = true := by simpa using hm
                  have HG := Lib.hid (show AKW D w Wd p q n L' O' P' ((X3, .cells #[.slice su zs.length cu] 52) :: (Y, oactObj ⟨ak, ai, aa, ⟨pf, ps, pd⟩⟩) :: B) X4 a2 (.slice su zs.length cu) zs from by rw [← hm]; exact hJ)
                  have hr2 : 0 ≤ a2 ∧ a2 < (zs.length : Int) := by omega
                  clear hJ hp hlw hlp hE
                  gi_wp2_with fail
                  exact ⟨KeepsFrom.refl _ _, .inr ⟨rfl, HG.out, hr2⟩⟩
                · have hmb : ((pre.length : Int) == a2) = false := by simpa using hm
                  obtain ⟨z, hz⟩ : ∃ z, zs[pre.length]? = some z := ⟨_, List.getElem?_eq_getElem hlt2⟩
                  obtain ⟨gr, og, cg, hv, k0, k1, k2, k3⟩ := t_cells hJ.r hz
                  injection hv with v1 v2 v3
                  subst v1
                  have hyx := next_pg hp hz (k, ⟨fr, sl, d⟩)
                  obtain ⟨zk, zf, zl, zd⟩ := z
                  simp only at k0 k1 k2 k3
                  have hd : decide ((pre.length : Int) ≥ (zs.length : Int)) = false := decide_eq_false (by omega)
                  have hd2 : decide (zs.length ≤ pre.length) = false := decide_eq_false (by omega)
                  clear hJ hp hlw hlp hE hz v2 v3 hm
                  by_cases hxv : zk = k
                  · have hne := fun W => neq_pg W zf zl zd fr sl d
                    have n1 : (zk != k) = false := by simpa using hxv
                    by_cases hxe : zf = fr ∧ zl = sl ∧ zd = d
                    · have HPX := Lib.hid (hyx.2 (by rw [hxv, hxe.1, hxe.2.1, hxe.2.2]))
                      rw [decide_eq_true hxe] at hne
                      clear hxe hyx hxv
                      gi_wp2_with fail
                      refine wpIn_quiet_round (F := Fence.wide) (by kernel_rfl) (by kernel_rfl) (by kernel_rfl) ?_
                      repeat (gi_big_quiet_step (fail))
                      refine wpQuietIn_nil ?_
                      rintro _ ⟨nq, rfl⟩
                      have hgr := grown_drewN Wd nq none
                      have hJd := HJ.out.grow HT.out.toStOkO hgr
                      obtain ⟨e4, f4⟩ := num_at hJd.k
                      have h8 := hJd.set HT.out.toStOkO ((pre.length : Int) + 1)
                      have HJ8 := Lib.hid h8
                      have HKd := Lib.hid (((KeepsOthers.of_grownBy hgr (by simp)).trans (KeepsOthers.setCell (Wd.drewN nq) ⟨X4, 0, none⟩ (.int .i64 ((pre.length : Int) + 1)))).from W5.heap.size)
                      have hNu : X4 ∉ u2.ownBlock.toList := fun h => by have := HU2.out X4 (by simpa using h); omega
                      have HKp := Lib.hid (show KpG u2.ownBlock.toList Wd ((Wd.drewN nq).setCell ⟨X4, 0, none⟩ (.int .i64 ((pre.length : Int) + 1))) from kpG_set2 (W := Wd.drewN nq) hNu)
                      have HSz := Lib.hid (Nat.le_trans hsz (Nat.le_trans hgr.size (grown_set (Wd.drewN nq) X4 0 (.int .i64 ((pre.length : Int) + 1))).size))
                      clear hgr hJd h8 k0 k1 k2 k3 e0 e1 e2 e3 d0 d1 d2 hNu
                      gi_wp2
                      refine ⟨HKd.out, HKp.out, ?_, HPX.out, HSz.out⟩
                      rw [List.length_append, List.length_singleton]
                      exact HJ8.out
                    · have HNP := Lib.hid (fun h => hxe (by have h1 := hyx.1 h; injection h1 with h2 h3; injection h3 with h4 h5 h6; exact ⟨h4, h5, h6⟩))
                      rw [decide_eq_false hxe] at hne
                      clear hxe hyx hxv
                      gi_wp2_with fail
                      refine wpIn_quiet_round (F := Fence.wide) (by kernel_rfl) (by kernel_rfl) (by kernel_rfl) ?_
                      repeat (gi_big_quiet_step (fail))
                      refine wpQuietIn_nil ?_
                      rintro _ ⟨nq, rfl⟩
                      have hgr := grown_drewN Wd nq none
                      obtain ⟨-, cr, cf⟩ := res_at (y := y) (HJ.out.x.f.grow hgr) (List.mem_cons_of_mem _ (List.mem_cons_of_mem _ HMr.out))
                      have HKd := Lib.hid (((KeepsOthers.of_grownBy hgr (by simp)).trans (KeepsOthers.setCell (Wd.drewN nq) ⟨y + 1, 0, none⟩ (.bool false))).from W5.heap.size)
                      clear hgr k0 k1 k2 k3 e0 e1 e2 e3 e4 d0 d1 d2
                      gi_wp2
                      exact ⟨HKd.out, .inl ⟨rfl, HNP.out⟩⟩
                  · have n1 : (zk != k) = true := by simpa using hxv
                    have HNP := Lib.hid (fun h => hxv (by have h1 := hyx.1 h; injection h1))
                    clear hxv hyx
                    gi_wp2_with fail
                    refine wpIn_quiet_round (F := Fence.wide) (by kernel_rfl) (by kernel_rfl) (by kernel_rfl) ?_
                    repeat (gi_big_quiet_step (fail))
                    refine wpQuietIn_nil ?_
                    rintro _ ⟨nq, rfl⟩
                    have hgr := grown_drewN Wd nq none
                    obtain ⟨-, cr, cf⟩ := res_at (y := y) (HJ.out.x.f.grow hgr) (List.mem_cons_of_mem _ (List.mem_cons_of_mem _ HMr.out))
                    have HKd := Lib.hid (((KeepsOthers.of_grownBy hgr (by simp)).trans (KeepsOthers.setCell (Wd.drewN nq) ⟨y + 1, 0, none⟩ (.bool false))).from W5.heap.size)
                    clear hgr k0 k1 k2 k3 e0 e1 e2 e3 e4 d0 d1 d2
                    gi_wp2
                    exact ⟨HKd.out, .inl ⟨rfl, HNP.out⟩⟩
              case done =>
                rintro Dn ys Wd hD hys ⟨hJ, -, hsz⟩ hK
                rw [hys] at hJ
                have hDO : Dn ∉ O' := fun hm => by have := HH.out.1 _ hm; omega
                have hDP : Dn ∉ P' := fun hm => by have := HH.out.2.1 _ hm; omega
                have hDw : w.heap.size ≤ Dn := by have := hJ.kw; have := HH.out.2.2.2.1; omega
                have hx := hJ.x.defer hK hDO hDP hDw
                have HF2 := Lib.hid (hx.sub (B' := (Dn :: Ds).map dfO ++ aB y a0 a1 a2) fun b hb => by
                  rw [List.map_cons, List.cons_append, HBe.out] at hb
                  rcases List.mem_cons.1 hb with rfl | hb
                  · exact List.mem_cons_self ..
                  · exact List.mem_cons_of_mem _ (List.mem_cons_of_mem _ (List.mem_cons_of_mem _ hb)))
                have HN2 := Lib.hid (List.nodup_cons.2 ⟨fun hm => by have h1 := HH.out.2.2.1 _ (List.mem_cons_of_mem _ (List.mem_cons_of_mem _ (HMd.out Dn hm))); have h1 : Dn < W5.heap.size := h1; omega, HNd.out⟩)
                obtain ⟨d0, d1, d2⟩ := ask_at hJ.x.f (List.mem_cons_of_mem _ (List.mem_cons_of_mem _ HMa.out))
                have e3 := one_at (hJ.x.f.at (List.mem_cons_self ..))
                obtain ⟨e4, -⟩ := num_at hJ.k
                clear hDO hDP hDw hx hJ hK
                rcases (show a2 < 0 ∨ (¬ a2 < 0 ∧ a2 > (zs.length : Int)) ∨ (¬ a2 < 0 ∧ ¬ a2 > (zs.length : Int)) by omega) with t1 | ⟨t1, t2⟩ | ⟨t1, t2⟩
                · have t1 : decide (a2 < 0) = true := decide_eq_true t1
                  go_wp2_with fail
                  refine And.intro ?inv ?measure
                  case inv =>
                    (repeat apply Exists.intro)
                    refine ⟨?_, rfl⟩
                    exact ⟨j + 1, L', O', P', Dn :: Ds, by omega, by go_num, rfl, HN2, HF2⟩
                  case measure => simp [intOf]; omega
                · have t1 : decide (a2 < 0) = false := decide_eq_false t1
                  have t2 : decide (a2 > (zs.length : Int)) = true := decide_eq_true t2
                  go_wp2_with fail
                  refine And.intro ?inv ?measure
                  case inv =>
                    (repeat apply Exists.intro)
                    refine ⟨?_, rfl⟩
                    exact ⟨j + 1, L', O', P', Dn :: Ds, by omega, by go_num, rfl, HN2, HF2⟩
                  case measure => simp [intOf]; omega
                · have t1 : decide (a2 < 0) = false := decide_eq_false t1
                  have t2 : decide (a2 > (zs.length : Int)) = false := decide_eq_false t2
                  go_wp2_with fail
                  refine And.intro ?inv ?measure
                  case inv =>
                    (repeat apply Exists.intro)
                    refine ⟨?_, rfl⟩
                    exact ⟨j + 1, L', O', P', Dn :: Ds, by omega, by go_num, rfl, HN2, HF2⟩
                  case measure => simp [intOf]; omega
              case stop =>
                rintro Dn cx xs Wd hD hp (⟨rfl, hx⟩ | ⟨rfl, hJ, h8, h9⟩) hK
                · exact absurd hp hx
                · have t1 : decide (a2 < 0) = false := decide_eq_false (by omega)
                  have t2 : decide (a2 > (zs.length : Int)) = false := decide_eq_false (by omega)
                  have hDO : Dn ∉ O' := fun hm => by have := HH.out.1 _ hm; omega
                  have hDP : Dn ∉ P' := fun hm => by have := HH.out.2.1 _ hm; omega
                  have hDw : w.heap.size ≤ Dn := by have := hJ.kw; have := HH.out.2.2.2.1; omega
                  have hx := hJ.x.defer hK hDO hDP hDw
                  have HF2 := Lib.hid (hx.sub (B' := (Dn :: Ds).map dfO ++ aB y a0 a1 a2) fun b hb => by
                    rw [List.map_cons, List.cons_append, HBe.out] at hb
                    rcases List.mem_cons.1 hb with rfl | hb
                    · exact List.mem_cons_self ..
                    · exact List.mem_cons_of_mem _ (List.mem_cons_of_mem _ (List.mem_cons_of_mem _ hb)))
                  have HN2 := Lib.hid (List.nodup_cons.2 ⟨fun hm => by have h1 := HH.out.2.2.1 _ (List.mem_cons_of_mem _ (List.mem_cons_of_mem _ (HMd.out Dn hm))); have h1 : Dn < W5.heap.size := h1; omega, HNd.out⟩)
                  obtain ⟨d0, d1, d2⟩ := ask_at hJ.x.f (List.mem_cons_of_mem _ (List.mem_cons_of_mem _ HMa.out))
                  have e3 := one_at (hJ.x.f.at (List.mem_cons_self ..))
                  obtain ⟨e4, -⟩ := num_at hJ.k
                  clear hDO hDP hDw hx hJ hK
                  gi_wp2
                  go_wp2_with fail
                  refine And.intro ?inv ?measure
                  case inv =>
                    (repeat apply Exists.intro)
                    refine ⟨?_, rfl⟩
                    exact ⟨j + 1, L', O', P', Dn :: Ds, by omega, by go_num, rfl, HN2, HF2⟩
                  case measure => simp [intOf]; omega
            clear hK2
            go_wp2_with fail
            go_region_held3 (fun W => W.cell? ⟨Y, 1, none⟩ = some (.int .i64 ai) ∧ W.cell? ⟨Y, 2, none⟩ = some (.int .i64 aa) ∧ W.cell? ⟨w4.heap.size, 0, none⟩ = some (.int .i64 x.fr) ∧ W.cell? ⟨w4.heap.size, 1, none⟩ = some (.int .i64 x.sl) ∧ W.cell? ⟨w4.heap.size, 2, none⟩ = some (.bool x.d) ∧ W.cell? ⟨w6.heap.size, 0, none⟩ = some (.int .i64 x.fr) ∧ W.cell? ⟨w6.heap.size, 1, none⟩ = some (.int .i64 x.sl) ∧ W.cell? ⟨w6.heap.size, 2, none⟩ = some (.bool x.d)) (first | exact hkd | fail)
              (first
                | (go_at_call 21; with_reducible refine ((HT.out.ofG HB.out.two.one.d aa HOk.out.a).mono ?_); rintro e w9 ⟨rfl, g9⟩; replace HB := Lib.hid (HB.out.grow HT.out.toStOkO g9); replace hkd := kd14 HB.out.f; simp only at hkd; clear g9)
                | (go_at_call 22; with_reducible refine ((rd_of HB.out.two.two.d aa).mono ?_); rintro e w9 ⟨rfl, g9⟩; replace HB := Lib.hid (HB.out.grow HT.out.toStOkO g9); replace hkd := kd14 HB.out.f; simp only at hkd; clear g9)
                | (go_at_call 23; with_reducible refine ((HT.out.fileG HB.out.two.one.d ai HOk.out.id).mono ?_); rintro e w9 ⟨rfl, g9⟩; replace HB := Lib.hid (HB.out.grow HT.out.toStOkO g9); replace hkd := kd14 HB.out.f; simp only at hkd; clear g9)
                | (go_at_call 24; with_reducible refine ((rd_fileG HB.out.two.two.d ai HOk.out.id).mono ?_); rintro e w9 ⟨rfl, g9⟩; replace HB := Lib.hid (HB.out.grow HT.out.toStOkO g9); replace hkd := kd14 HB.out.f; simp only at hkd; clear g9)
                | (go_at_call 26; with_reducible refine ((HT.out.ids HB.out.two.one.d).mono ?_); rintro e w9 ⟨u9, rfl, hu9, -, g9⟩; obtain ⟨s9, c9, rfl⟩ := rowOf_form hu9; have HI1 := Lib.hid hu9; replace HB := Lib.hid (HB.out.grow HT.out.toStOkO g9); replace hkd := kd14 HB.out.f; simp only at hkd; clear g9 hu9)
                | (go_at_call 27; with_reducible refine ((rd_ids HB.out.two.two.d).mono ?_); rintro e w9 ⟨u10, rfl, hu10, -, g9⟩; obtain ⟨s10, c10, rfl⟩ := rowOf_form hu10; replace HI1 := Lib.hid (rowOf_grow HI1.out g9); have HI2 := Lib.hid hu10; replace HB := Lib.hid (HB.out.grow HT.out.toStOkO g9); replace hkd := kd14 HB.out.f; simp only at hkd; clear g9 hu10)
                | (go_at_call 25; with_reducible refine ((ints_ok c9 c10 HI1.out HI2.out (by omega) true (by simp)).mono ?_); rintro e w9 ⟨rfl, g9⟩; replace HB := Lib.hid (HB.out.grow HT.out.toStOkO g9); replace hkd := kd14 HB.out.f; simp only at hkd; clear g9)
                | fail)
            all_goals
              clear hkd hne
              go_wp2_with fail
              first | exact Lib.hid (HB.out.sub fun b hb => List.mem_cons_of_mem _ (List.mem_cons_of_mem _ hb)) | exact tail2 _ _ _ _ _ _ _ _ _ _ _ _ _ _ _ _ _ _ _ _ _ _ _ _ _ _ _ _ _ _ _ _ _ _ _ _ _ _ _ _ _ _ _ _ _ _ _ _ _ _ _ _ _ _ _ _ _ _ _ _ _ _ _ _ (Lib.hid (HB.out.sub fun b hb => List.mem_cons_of_mem _ (List.mem_cons_of_mem _ hb)))
          clear hK
          by_cases k0 : ak = 0
          · subst k0
            obtain ⟨X, hX⟩ : ∃ X, makeO n L aa = X := ⟨_, rfl⟩
            have hk := HT.out.make HR.out.two.one.d aa HOk.out.a
            rw [hX] at hk
            have HK := Lib.hid hk
            have HXe := Lib.hid hX
            clear hk hX
            go_wp2_with fail
            refine HK.out.mono ?_
            rintro e w4 ⟨rfl, h4⟩
            obtain ⟨O4, h4⟩ := HR.out.first h4
            have H4 := Lib.hid h4
            obtain ⟨z0, z1, z2, z3, z4, z5⟩ := oact_at (y := Y) (A := ⟨0, ai, aa, ⟨pf, ps, pd⟩⟩) (H4.out.f.at (List.mem_cons_self ..))
            simp only at z0 z1 z2 z3 z4 z5
            have hk := rd_make H4.out.two.two.d aa HOk.out.a
            rw [HXe.out] at hk
            have HK2 := Lib.hid hk
            clear hk h4 HK HR b0 b1 b2 b3 b4 b5
            go_wp2_with fail
            refine HK2.out.mono ?_
            rintro e w5 ⟨rfl, h5⟩
            obtain ⟨P5, h5⟩ := H4.out.second HT.out.toStOkO h5
            have H5 := Lib.hid h5
            obtain ⟨L5, hL5⟩ : ∃ L5, X.L = L5 := ⟨_, rfl⟩
            rw [hL5] at H5
            clear h5 HK2 H4 HXe z0 z1 z2 z3 z4 z5 hL5
            go_wp2_with fail
            exact tail _ _ _ _ _ _ _ _ _ _ _ _ _ _ _ _ _ _ _ _ _ _ _ _ _ _ _ _ _ _ _ _ _ _ _ _ _ _ _ _ _ _ _ _ _ _ _ _ _ _ _ _ _ _ _ _ _ _ _ _ _ _ _ _ _ _ _ _ _ _ _ _ _ _ _ _ _ _ _ _ _ _ _ _ _ _ _ _ _ _ _ _ _ _ _ L5 _ _ H5
          · have n0 : (ak == 0) = false := by simpa using k0
            by_cases k1 : ak = 1
            · subst k1
              obtain ⟨X, hX⟩ : ∃ X, refO L ai aa = X := ⟨_, rfl⟩
              have hk := HT.out.ref HR.out.two.one.d ai aa HOk.out.id HOk.out.a
              rw [hX] at hk
              have HK := Lib.hid hk
              have HXe := Lib.hid hX
              clear hk hX
              go_wp2_with fail
              refine HK.out.mono ?_
              rintro e w4 ⟨rfl, h4⟩
              obtain ⟨O4, h4⟩ := HR.out.first h4
              have H4 := Lib.hid h4
              obtain ⟨z0, z1, z2, z3, z4, z5⟩ := oact_at (y := Y) (A := ⟨1, ai, aa, ⟨pf, ps, pd⟩⟩) (H4.out.f.at (List.mem_cons_self ..))
              simp only at z0 z1 z2 z3 z4 z5
              have hk := rd_ref H4.out.two.two.d ai aa HOk.out.id HOk.out.a
              rw [HXe.out] at hk
              have HK2 := Lib.hid hk
              clear hk h4 HK HR b0 b1 b2 b3 b4 b5
              go_wp2_with fail
              refine HK2.out.mono ?_
              rintro e w5 ⟨rfl, h5⟩
              obtain ⟨P5, h5⟩ := H4.out.second HT.out.toStOkO h5
              have H5 := Lib.hid h5
              obtain ⟨L5, hL5⟩ : ∃ L5, X.L = L5 := ⟨_, rfl⟩
              rw [hL5] at H5
              clear h5 HK2 H4 HXe z0 z1 z2 z3 z4 z5 hL5
              go_wp2_with fail
              exact tail _ _ _ _ _ _ _ _ _ _ _ _ _ _ _ _ _ _ _ _ _ _ _ _ _ _ _ _ _ _ _ _ _ _ _ _ _ _ _ _ _ _ _ _ _ _ _ _ _ _ _ _ _ _ _ _ _ _ _ _ _ _ _ _ _ _ _ _ _ _ _ _ _ _ _ _ _ _ _ _ _ _ _ _ _ _ _ _ _ _ _ _ _ _ _ L5 _ _ H5
            · have n1 : (ak == 1) = false := by simpa using k1
              by_cases k2 : ak = 2
              · subst k2
                obtain ⟨X, hX⟩ : ∃ X, putPO L ai aa ⟨pf, ps, pd⟩ = X := ⟨_, rfl⟩
                have HXe := Lib.hid hX
                have HB := Lib.hid (HR.out.grow HT.out.toStOkO (grown_drew1 _))
                have hkd := (oact_at (y := Y) (A := ⟨2, ai, aa, ⟨pf, ps, pd⟩⟩) (HB.out.f.at (List.mem_cons_self ..))).2
                simp only at hkd
                clear hX HR
                go_wp2_with fail
                clear b0 b1 b2 b3 b4 b5
                go_region_held3 (fun W => W.cell? ⟨Y, 1, none⟩ = some (.int .i64 ai) ∧ W.cell? ⟨Y, 2, none⟩ = some (.int .i64 aa) ∧ W.cell? ⟨Y, 3, none⟩ = some (.int .i64 pf) ∧ W.cell? ⟨Y, 4, none⟩ = some (.int .i64 ps) ∧ W.cell? ⟨Y, 5, none⟩ = some (.bool pd)) (first | exact hkd | fail)
                  (first
                    | (go_at_call 15; with_reducible refine ((HT.out.put HB.out.two.one.d ai aa pf ps pd HOk.out.id HOk.out.a).mono ?_); rw [HXe.out]; rintro e w5 ⟨rfl, h5⟩; obtain ⟨O5, h5⟩ := HB.out.first h5; have HH := Lib.hid h5; replace hkd := (oact_at (y := Y) (A := ⟨2, ai, aa, ⟨pf, ps, pd⟩⟩) (HH.out.f.at (List.mem_cons_self ..))).2; simp only at hkd; clear h5)
                    | (go_at_call 16; with_reducible refine ((rd_put HH.out.two.two.d ai aa pf ps pd HOk.out.id HOk.out.a).mono ?_); rw [HXe.out]; rintro e w6 ⟨rfl, h5⟩; obtain ⟨P6, h5⟩ := HH.out.second HT.out.toStOkO h5; have H7 := Lib.hid h5; replace hkd := (oact_at (y := Y) (A := ⟨2, ai, aa, ⟨pf, ps, pd⟩⟩) (H7.out.f.at (List.mem_cons_self ..))).2; simp only at hkd; clear h5)
                    | fail)
                obtain ⟨L5, hL7⟩ : ∃ L5, X.L = L5 := ⟨_, rfl⟩
                rw [hL7] at H7
                clear HXe hL7 HH HB hkd
                go_wp2_with fail
                exact tail _ _ _ _ _ _ _ _ _ _ _ _ _ _ _ _ _ _ _ _ _ _ _ _ _ _ _ _ _ _ _ _ _ _ _ _ _ _ _ _ _ _ _ _ _ _ _ _ _ _ _ _ _ _ _ _ _ _ _ _ _ _ _ _ _ _ _ _ _ _ _ _ _ _ _ _ _ _ _ _ _ _ _ _ _ _ _ _ _ _ _ _ _ _ _ L5 _ _ H7
              · have n2 : (ak == 2) = false := by simpa using k2
                by_cases k3 : ak = 3
                · subst k3
                  obtain ⟨L5, hX⟩ : ∃ X, dropL L ai aa = X := ⟨_, rfl⟩
                  obtain ⟨bz, hbz⟩ : ∃ bz, (getO L ai aa).isSome = bz := ⟨_, rfl⟩
                  have HXe := Lib.hid hX
                  have HBz := Lib.hid hbz
                  have HB := Lib.hid (HR.out.grow HT.out.toStOkO (grown_drew1 _))
                  have hkd := (oact_at (y := Y) (A := ⟨3, ai, aa, ⟨pf, ps, pd⟩⟩) (HB.out.f.at (List.mem_cons_self ..))).2
                  simp only at hkd
                  clear hX HR hbz
                  go_wp2_with fail
                  clear b0 b1 b2 b3 b4 b5
                  go_region_held3 (fun W => W.cell? ⟨Y, 1, none⟩ = some (.int .i64 ai) ∧ W.cell? ⟨Y, 2, none⟩ = some (.int .i64 aa) ∧ W.cell? ⟨Y, 3, none⟩ = some (.int .i64 pf) ∧ W.cell? ⟨Y, 4, none⟩ = some (.int .i64 ps) ∧ W.cell? ⟨Y, 5, none⟩ = some (.bool pd)) (first | exact hkd | fail)
                    (first
                      | (go_at_call 17; with_reducible refine ((HT.out.drop HB.out.two.one.d ai aa HOk.out.id HOk.out.a).mono ?_); rw [HXe.out, HBz.out]; rintro e w5 ⟨rfl, h5⟩; obtain ⟨O5, h5⟩ := HB.out.first h5; have HH := Lib.hid h5; replace hkd := (oact_at (y := Y) (A := ⟨3, ai, aa, ⟨pf, ps, pd⟩⟩) (HH.out.f.at (List.mem_cons_self ..))).2; simp only at hkd; clear h5)
                      | (go_at_call 18; with_reducible refine ((rd_drop HH.out.two.two.d ai aa HOk.out.id).mono ?_); rw [HXe.out, HBz.out]; rintro e w6 ⟨rfl, h5⟩; obtain ⟨P6, h5⟩ := HH.out.second HT.out.toStOkO h5; have H7 := Lib.hid h5; replace hkd := (oact_at (y := Y) (A := ⟨3, ai, aa, ⟨pf, ps, pd⟩⟩) (H7.out.f.at (List.mem_cons_self ..))).2; simp only at hkd; clear h5)
                      | fail)
                  clear HXe HBz HH HB hkd
                  go_wp2_with fail
                  exact tail _ _ _ _ _ _ _ _ _ _ _ _ _ _ _ _ _ _ _ _ _ _ _ _ _ _ _ _ _ _ _ _ _ _ _ _ _ _ _ _ _ _ _ _ _ _ _ _ _ _ _ _ _ _ _ _ _ _ _ _ _ _ _ _ _ _ _ _ _ _ _ _ _ _ _ _ _ _ _ _ _ _ _ _ _ _ _ _ _ _ _ _ _ _ _ L5 _ _ H7
                · have n3 : (ak == 3) = false := by simpa using k3
                  go_wp2_with fail
                  exact tail _ _ _ _ _ _ _ _ _ _ _ _ _ _ _ _ _ _ _ _ _ _ _ _ _ _ _ _ _ _ _ _ _ _ _ _ _ _ _ _ _ _ _ _ _ _ _ _ _ _ _ _ _ _ _ _ _ _ _ _ _ _ _ _ _ _ _ _ _ _ _ _ _ _ _ _ _ _ _ _ _ _ _ _ _ _ _ _ _ _ _ _ _ _ _ L _ _ HR
        · obtain rfl : j = l := by omega
          go_wp2_with fail
          refine (HLv.out _).mono ?_
          rintro e w6 ⟨rfl, g6⟩
          have h6 := HJ.out.f.grow g6
          obtain ⟨hres, cr, cf⟩ := res_at (y := y) h6 (List.mem_append_right _ (by simp [aB]))
          have H6 := Lib.hid h6
          have HRes := Lib.hid hres
          clear g6 h6 hres HJ
          go_wp2_with fail
          have hdf : ∀ E, E ∈ Ds → w6.heap[E]? = some (.deferred (some [])) := fun E hE => H6.out.at (k := E) (List.mem_append_left _ (List.mem_map.2 ⟨E, hE, rfl⟩))
          have hdr : ∀ E, E ∈ Ds → E ≠ y + 1 := fun E hE e => by
            have h1 := hdf E hE
            rw [e, HRes.out] at h1
            cases h1
          refine leaves_marks Ds _ HNd.out (fun E hE => ?_) fun w' t => ?_
          · exact (heap_setCell_other _ ⟨y + 1, 0, none⟩ E _ (by first | exact hdr E hE | exact (hdr E hE).symm)).trans (hdf E hE)
          · have h1 : (w6.setCell ⟨y + 1, 0, none⟩ (.bool true)).heap[y + 1]? = some (.cells #[.bool true] 4) := heap_setCell_same w6 (y + 1) 0 _ _ _ HRes.out
            have h2 : w'.heap[y + 1]? = some (.cells #[.bool true] 4) := (t.block _ (Array.getElem?_eq_some_iff.1 h1).1 (fun hm => hdr _ hm rfl)).trans h1
            refine ⟨_, results_cell_bool rfl _ _ (y + 1) (.bool true) rfl (by rw [cell_of_row _ _ _ _ _ _ h2]; rfl), rfl, ?_⟩
            have hy1 : w.heap.size ≤ y + 1 := by omega
            exact ((Turn.grown (grown_at H6.out.grown (grown_set w6 (y + 1) 0 _) hy1)).trans' t).noGrown (O := Ds) fun E hE => H6.out.own (dfO E) (List.mem_append_left _ (List.mem_map.2 ⟨E, hE, rfl⟩))
    · have d60 : decide ((l : Int) > 120) = true := decide_eq_true (by omega)
      have FF := HD.out.f
      clear HD
      go_wp2_with fail
      refine (HLv.out _).mono ?_
      rintro e w6 ⟨rfl, g6⟩
      have h6 := FF.grow g6
      obtain ⟨hres, cr, cf⟩ := res_at (y := y) h6 (by simp [aB])
      have H6 := Lib.hid h6.grown
      have HRes := Lib.hid hres
      clear g6 h6 hres
      go_wp2_with fail
      have h1 : (w6.setCell ⟨y + 1, 0, none⟩ (.bool true)).heap[y + 1]? = some (.cells #[.bool true] 4) := heap_setCell_same w6 (y + 1) 0 _ _ _ HRes.out
      exact ⟨_, results_cell_bool rfl _ _ (y + 1) (.bool true) rfl (by rw [cell_of_row _ _ _ _ _ _ h1]; rfl), rfl, grown_at H6.out (grown_set w6 (y + 1) 0 _) (by omega)⟩
  · have HN := Lib.hid (fun wx => HT.out.newNo n0 wx hs)
    have HR0 := Lib.hid (fun wx => ro_new_no n0 wx hs)
    clear hs hn
    go_wp2_with fail
    refine (HN.out _).mono ?_
    rintro e w2 ⟨rfl, g2⟩
    go_wp2_with fail
    refine (HR0.out _).mono ?_
    rintro e w3 ⟨rfl, g3⟩
    have FF := (H2.out.grow g2).grow g3
    go_wp2_with fail
    refine (HLv.out _).mono ?_
    rintro e w6 ⟨rfl, g6⟩
    have h6 := FF.grow g6
    obtain ⟨hres, cr, cf⟩ := res_at (y := y) h6 (by simp [aB])
    have H6 := Lib.hid h6.grown
    have HRes := Lib.hid hres
    clear g6 h6 hres
    go_wp2_with fail
    have h1 : (w6.setCell ⟨y + 1, 0, none⟩ (.bool true)).heap[y + 1]? = some (.cells #[.bool true] 4) := heap_setCell_same w6 (y + 1) 0 _ _ _ HRes.out
    exact ⟨_, results_cell_bool rfl _ _ (y + 1) (.bool true) rfl (by rw [cell_of_row _ _ _ _ _ _ h1]; rfl), rfl, grown_at H6.out (grown_set w6 (y + 1) 0 _) (by omega)⟩
theorem acts_done14 (w : World) (n0 : Int) (sa : Option Addr) (l c : Nat) (As : List OActV) (a0 a1 a2 : Int) (hA : OActsAre w sa l As) (hn : okI n0) (h0 : okI a0) (h1 : okI a1) (h2 : okI a2) : Calls Try.prog 3 #[.int .i64 n0, .slice sa l c, .agg #[.int .i64 a0, .int .i64 a1, .int .i64 a2]] w fun e w' => e = .returned (.bool true) ∧ w.grownBy w' none := acts_walk14 obOk w n0 sa l c As a0 a1 a2 hA hn h0 h1 h2
end Go.Proofs.Ytefcefclncbimaa
