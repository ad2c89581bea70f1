/- Layer 17 (landed): Byte; what the laws ask and make: Light, world. Layer 17 (landed): the laws' world, behind some operations. Layer 17 (landed): loans, plainly; steps of a law. -/
import Derived.Test.YtefiiooibbkffaaGreatFlMq
import Derived.Test.YtefiiooibbkffaaGreatFlMl
namespace Go.Proofs.YtefiiooibbkffaaGreat
open Go.ChangeShapes Go.WideShapes Go.ChangeAt Go.RowKit Go.Deep Go.Sort
set_option linter.unusedVariables false
set_option linter.unusedSimpArgs false

section
variable {w w' : World} {kd kd' : Nat → Ro} {t r : Nat} {h : Gh} {S S' : Fl} {p tp : Pr} {j : Nat} {n : Int} {o : FOp}
set_option maxHeartbeats 2000000 in
theorem fbyte_ok (k : FW w kd t r h S) (hok : SOk S) (id pg a : Int) (hi : okI id) :
    Calls Tryz.prog 21 #[.pointer (some ⟨r, 0, none⟩), .int .i64 id, .int .i64 pg, .int .i64 a] w fun e w' => e = .returned (.tuple #[.int .i64 (S.byte id pg a).1, .int .i64 (S.byte id pg a).2]) ∧ w.grownBy w' none := by
  have k0 := k.hw.at.1
  have HM := Lib.hid (isMade_ok k0)
  cases hp : geA S.ps id with
  | none =>
    have hlk := k.pm.look0 (geA_noids hp) hi
    have e : S.byte id pg a = (0, 7) := by unfold Fl.byte; rw [hp]
    rw [e]
    clear k hp hok
    go_enter Tryz.func21, Tryz.ntmps21
    go_wp2_with fail
    refine HM.out.mono ?_
    rintro e w2 ⟨rfl, rfl⟩
    go_wp2_with fail
    go_ret2
    exact ⟨rfl, grown_refl _ _⟩
  | some p =>
    have hlk := k.pm.look (geA_ids hp) hi
    have HA := Lib.hid (isAt_ok w a)
    have HL := Lib.hid (look_ok17 (k.vw hok hp) pg)
    have HSh := Lib.hid (fun W (g : w.grownBy W none) hi => sheetAt_any (((k.grow g).vw hok hp).lookU pg) a fun _ => hi)
    have HB := Lib.hid (show S.byte id pg a = (if isAtB a = true then (atB (S.look p pg).1 a, (S.look p pg).2) else (0, 2)) by unfold Fl.byte; rw [hp])
    obtain ⟨R, hR⟩ : ∃ R, S.byte id pg a = R := ⟨_, rfl⟩
    rw [hR] at HB ⊢
    generalize (S.look p pg).2 = er at *
    generalize atB (S.look p pg).1 a = v at *
    generalize lookU h S p pg = u at *
    obtain ⟨d, hd⟩ : ∃ d, isAtB a = d := ⟨_, rfl⟩
    rw [hd] at HA HB HSh
    clear k hp hok hR hd
    go_enter Tryz.func21, Tryz.ntmps21
    go_wp2_with fail
    refine HM.out.mono ?_
    rintro e w2 ⟨rfl, rfl⟩
    go_wp2_with fail
    refine HA.out.mono ?_
    rintro e w2 ⟨rfl, rfl⟩
    cases d with
    | false =>
      have HR := Lib.hid (show R = (0, 2) from HB.out)
      clear HB
      go_wp2_with fail
      go_ret2
      exact ⟨by rw [HR.out]; rfl, grown_refl _ _⟩
    | true =>
      have HR := Lib.hid (show R = (v, er) from HB.out)
      clear HB
      go_wp2_with fail
      refine HL.out.mono ?_
      rintro e w3 ⟨rfl, g3⟩
      have HS3 := Lib.hid (HSh.out w3 g3 (by first | trivial | rfl))
      have HG3 := Lib.hid g3
      clear g3 HSh
      go_wp2_with fail
      refine HS3.out.mono ?_
      rintro e w4 ⟨rfl, rfl⟩
      go_wp2_with fail
      go_ret2
      exact ⟨by rw [HR.out]; rfl, HG3.out⟩
end
def lightP (o : FOp) : Prop := (o.k = 1 ∨ o.k = 20) → 1 ≤ o.n → o.n ≤ 4096 → o.n ≤ 40
def pgsO (os : List FOp) : Int := (os.map pgO).sum
theorem pgsO_next {os : List FOp} {q : Nat} {o : FOp} (h : os[q]? = some o) : pgsO (os.take (q + 1)) = pgsO (os.take q) + pgO o := by
  unfold pgsO
  rw [takel_at h, List.map_append, List.sum_append]
  simp
theorem pgsO_le : ∀ (os : List FOp) (q : Nat), 0 ≤ pgsO (os.take q) ∧ pgsO (os.take q) ≤ pgsO os
  | [], q => by simp [pgsO]
  | o :: os, 0 => by
    have := (pgsO_le os os.length).1
    rw [List.take_length] at this
    have := pgO_pos o
    simp only [pgsO, List.take_zero, List.map_nil, List.sum_nil, List.map_cons, List.sum_cons] at *
    omega
  | o :: os, q + 1 => by
    have := pgsO_le os q
    have := pgO_pos o
    simp only [pgsO, List.take_succ_cons, List.map_cons, List.sum_cons] at *
    omega
set_option maxHeartbeats 4000000 in
theorem light_ok {w : World} {s : Option Addr} {l c : Nat} {os : List FOp} (hA : OpsAre w s l os) (m : Int) (hm0 : 0 ≤ m) (hm : m ≤ 100) :
    Calls Tryz.prog 11 #[.slice s l c, .int .i64 m] w fun e w' => ∃ b, e = .returned (.bool b) ∧ w.grownBy w' none ∧ (b = true → os.length ≤ m.toNat ∧ (∀ o, o ∈ os → lightP o) ∧ pgsO os ≤ 200) := by
  have hl := hA.len
  have HA := Lib.hid hA
  clear hA
  by_cases h1 : (l : Int) > m
  · have b1 : decide ((l : Int) > m) = true := decide_eq_true h1
    clear h1
    go_enter Tryz.func11, Tryz.ntmps11
    go_wp2_with fail
    go_ret
    exact ⟨_, rfl, grown_refl _ _, fun h => by cases h⟩
  have b1 : decide ((l : Int) > m) = false := decide_eq_false h1
  have hlm : l ≤ 100 := by omega
  go_enter Tryz.func11, Tryz.ntmps11
  go_wp2_with fail
  go_loopw [5, 14] (fun sv iv wr => ∃ q : Nat, q ≤ l ∧ iv = .int .i64 q ∧ sv = .int .i64 (pgsO (os.take q)) ∧ pgsO (os.take q) ≤ 40 * q ∧ Hid (∀ o, o ∈ os.take q → lightP o) ∧ Hid (w.grownBy wr none)) (fun _ iv _ => l - (intOf iv).toNat)
  case atStart => exact ⟨0, by omega, rfl, rfl, by simp [pgsO], Lib.hid (fun o ho => by simp at ho), Lib.hid (grown_refl _ _)⟩
  case round =>
    obtain ⟨q, hq, rfl, rfl, hb, HP, HG⟩ := hrel
    have hp0 := (pgsO_le os q).1
    by_cases hlt : q < l
    · obtain ⟨o, ho⟩ : ∃ o, os[q]? = some o := ⟨_, List.getElem?_eq_getElem (by omega)⟩
      obtain ⟨g, p0, hs, ha⟩ := HA.out.at HG.out ho
      subst hs
      obtain ⟨c0, c1, c2, c3, c4, c5, c6, c7, c8, c9, c10, c11, c12, c13⟩ := ha
      have hB := OpB.new wr o
      have ga := World.grownBy_alloc wr (.cells #[.int .i64 o.k, .int .i64 o.proc, .int .i64 o.addr, .int .i64 o.n, .int .i64 o.prot, .bool o.sh, .int .i64 o.file, .int .i64 o.off, .bool o.fixed, .int .i64 o.how, .int .i64 o.ati, .int .i64 o.v, .int .i64 o.hd, .int .i64 o.to] 34) none
      have HGa := Lib.hid (grown_trans HG.out ga)
      obtain ⟨d0, -, -, d3, -, -, -, -, -, -, -, -, -, -⟩ := hB.at
      have hnx := pgsO_next ho
      have htk := takel_at ho
      obtain ⟨P, hP⟩ : ∃ P, pgsO (os.take q) = P := ⟨_, rfl⟩
      rw [hP] at hnx hb hp0
      have HPe := Lib.hid hP
      have HNx := Lib.hid hnx
      have HTk := Lib.hid htk
      have HPg := Lib.hid (show pgO o = if (o.k = 1 ∨ o.k = 20) ∧ 1 ≤ o.n ∧ o.n ≤ 4096 then o.n else 0 from rfl)
      clear ga hB ho hnx htk
      by_cases k1 : o.k = 1
      · have e1 : (o.k == 1) = true := by simpa using k1
        have HKk := Lib.hid (show o.k = 1 ∨ o.k = 20 from .inl k1)
        clear k1
        by_cases n0 : o.n > 0
        · have f0 : decide (o.n > 0) = true := decide_eq_true n0
          by_cases n1 : o.n > 40
          · have f1 : decide (o.n > 40) = true := decide_eq_true n1
            have f2 : decide (o.n ≤ 40) = false := decide_eq_false (by omega)
            by_cases n2 : o.n ≤ 4096
            · have f3 : decide (o.n ≤ 4096) = true := decide_eq_true n2
              go_wp2_with fail
              go_ret
              exact ⟨_, rfl, HGa.out, fun h => by cases h⟩
            · have f3 : decide (o.n ≤ 4096) = false := decide_eq_false n2
              have HV := Lib.hid (show pgsO (os.take (q + 1)) = P ∧ lightP o ∧ pgO o ≤ 40 ∧ 0 ≤ pgO o from by
                have e : pgO o = 0 := by rw [HPg.out]; rw [if_neg (by omega)]
                refine ⟨by rw [HNx.out, e]; omega, fun a b c => by omega, by omega, by omega⟩)
              have HP2 := Lib.hid (show ∀ x, x ∈ os.take (q + 1) → lightP x from fun x hx => by
                rw [HTk.out] at hx
                rcases List.mem_append.1 hx with hx | hx
                · exact HP.out x hx
                · rw [List.mem_singleton] at hx; subst hx; exact HV.out.2.1)
              go_wp2_with fail
              go_roundw
              case rel => exact ⟨q + 1, by omega, by go_num, (by rw [HV.out.1]; try rw [HPe.out]), by have h9 := HNx.out; have := HV.out.2.2; omega, HP2, HGa⟩
              case measure => simp [intOf]; omega
          · have f1 : decide (o.n > 40) = false := decide_eq_false n1
            have f2 : decide (o.n ≤ 40) = true := decide_eq_true (by omega)
            have HV := Lib.hid (show pgsO (os.take (q + 1)) = (P + o.n) ∧ lightP o ∧ pgO o ≤ 40 ∧ 0 ≤ pgO o from by
              have e : pgO o = o.n := by rw [HPg.out]; rw [if_pos ⟨HKk.out, by omega, by omega⟩]
              refine ⟨by rw [HNx.out, e], fun a b c => by omega, by omega, by omega⟩)
            have HP2 := Lib.hid (show ∀ x, x ∈ os.take (q + 1) → lightP x from fun x hx => by
              rw [HTk.out] at hx
              rcases List.mem_append.1 hx with hx | hx
              · exact HP.out x hx
              · rw [List.mem_singleton] at hx; subst hx; exact HV.out.2.1)
            go_wp2_with fail
            go_roundw
            case rel => exact ⟨q + 1, by omega, by go_num, (by rw [HV.out.1]; try rw [HPe.out]), by have h9 := HNx.out; have := HV.out.2.2; omega, HP2, HGa⟩
            case measure => simp [intOf]; omega
        · have f0 : decide (o.n > 0) = false := decide_eq_false n0
          have HV := Lib.hid (show pgsO (os.take (q + 1)) = P ∧ lightP o ∧ pgO o ≤ 40 ∧ 0 ≤ pgO o from by
            have e : pgO o = 0 := by rw [HPg.out]; rw [if_neg (by omega)]
            refine ⟨by rw [HNx.out, e]; omega, fun a b c => by omega, by omega, by omega⟩)
          have HP2 := Lib.hid (show ∀ x, x ∈ os.take (q + 1) → lightP x from fun x hx => by
            rw [HTk.out] at hx
            rcases List.mem_append.1 hx with hx | hx
            · exact HP.out x hx
            · rw [List.mem_singleton] at hx; subst hx; exact HV.out.2.1)
          go_wp2_with fail
          go_roundw
          case rel => exact ⟨q + 1, by omega, by go_num, (by rw [HV.out.1]; try rw [HPe.out]), by have h9 := HNx.out; have := HV.out.2.2; omega, HP2, HGa⟩
          case measure => simp [intOf]; omega
      · have e1 : (o.k == 1) = false := by simpa using k1
        by_cases k2 : o.k = 20
        · have e2 : (o.k == 20) = true := by simpa using k2
          have HKk := Lib.hid (show o.k = 1 ∨ o.k = 20 from .inr k2)
          clear k1 k2
          by_cases n0 : o.n > 0
          · have f0 : decide (o.n > 0) = true := decide_eq_true n0
            by_cases n1 : o.n > 40
            · have f1 : decide (o.n > 40) = true := decide_eq_true n1
              have f2 : decide (o.n ≤ 40) = false := decide_eq_false (by omega)
              by_cases n2 : o.n ≤ 4096
              · have f3 : decide (o.n ≤ 4096) = true := decide_eq_true n2
                go_wp2_with fail
                go_ret
                exact ⟨_, rfl, HGa.out, fun h => by cases h⟩
              · have f3 : decide (o.n ≤ 4096) = false := decide_eq_false n2
                have HV := Lib.hid (show pgsO (os.take (q + 1)) = P ∧ lightP o ∧ pgO o ≤ 40 ∧ 0 ≤ pgO o from by
                  have e : pgO o = 0 := by rw [HPg.out]; rw [if_neg (by omega)]
                  refine ⟨by rw [HNx.out, e]; omega, fun a b c => by omega, by omega, by omega⟩)
                have HP2 := Lib.hid (show ∀ x, x ∈ os.take (q + 1) → lightP x from fun x hx => by
                  rw [HTk.out] at hx
                  rcases List.mem_append.1 hx with hx | hx
                  · exact HP.out x hx
                  · rw [List.mem_singleton] at hx; subst hx; exact HV.out.2.1)
                go_wp2_with fail
                go_roundw
                case rel => exact ⟨q + 1, by omega, by go_num, (by rw [HV.out.1]; try rw [HPe.out]), by have h9 := HNx.out; have := HV.out.2.2; omega, HP2, HGa⟩
                case measure => simp [intOf]; omega
            · have f1 : decide (o.n > 40) = false := decide_eq_false n1
              have f2 : decide (o.n ≤ 40) = true := decide_eq_true (by omega)
              have HV := Lib.hid (show pgsO (os.take (q + 1)) = (P + o.n) ∧ lightP o ∧ pgO o ≤ 40 ∧ 0 ≤ pgO o from by
                have e : pgO o = o.n := by rw [HPg.out]; rw [if_pos ⟨HKk.out, by omega, by omega⟩]
                refine ⟨by rw [HNx.out, e], fun a b c => by omega, by omega, by omega⟩)
              have HP2 := Lib.hid (show ∀ x, x ∈ os.take (q + 1) → lightP x from fun x hx => by
                rw [HTk.out] at hx
                rcases List.mem_append.1 hx with hx | hx
                · exact HP.out x hx
                · rw [List.mem_singleton] at hx; subst hx; exact HV.out.2.1)
              go_wp2_with fail
              go_roundw
              case rel => exact ⟨q + 1, by omega, by go_num, (by rw [HV.out.1]; try rw [HPe.out]), by have h9 := HNx.out; have := HV.out.2.2; omega, HP2, HGa⟩
              case measure => simp [intOf]; omega
          · have f0 : decide (o.n > 0) = false := decide_eq_false n0
            have HV := Lib.hid (show pgsO (os.take (q + 1)) = P ∧ lightP o ∧ pgO o ≤ 40 ∧ 0 ≤ pgO o from by
              have e : pgO o = 0 := by rw [HPg.out]; rw [if_neg (by omega)]
              refine ⟨by rw [HNx.out, e]; omega, fun a b c => by omega, by omega, by omega⟩)
            have HP2 := Lib.hid (show ∀ x, x ∈ os.take (q + 1) → lightP x from fun x hx => by
              rw [HTk.out] at hx
              rcases List.mem_append.1 hx with hx | hx
              · exact HP.out x hx
              · rw [List.mem_singleton] at hx; subst hx; exact HV.out.2.1)
            go_wp2_with fail
            go_roundw
            case rel => exact ⟨q + 1, by omega, by go_num, (by rw [HV.out.1]; try rw [HPe.out]), by have h9 := HNx.out; have := HV.out.2.2; omega, HP2, HGa⟩
            case measure => simp [intOf]; omega
        · have e2 : (o.k == 20) = false := by simpa using k2
          have HKn := Lib.hid (show ¬ (o.k = 1 ∨ o.k = 20) from fun e => e.elim k1 k2)
          clear k1 k2
          have HV := Lib.hid (show pgsO (os.take (q + 1)) = P ∧ lightP o ∧ pgO o ≤ 40 ∧ 0 ≤ pgO o from by
            have e : pgO o = 0 := by rw [HPg.out]; rw [if_neg (fun x => HKn.out x.1)]
            refine ⟨by rw [HNx.out, e]; omega, fun a => (HKn.out a).elim, by omega, by omega⟩)
          have HP2 := Lib.hid (show ∀ x, x ∈ os.take (q + 1) → lightP x from fun x hx => by
            rw [HTk.out] at hx
            rcases List.mem_append.1 hx with hx | hx
            · exact HP.out x hx
            · rw [List.mem_singleton] at hx; subst hx; exact HV.out.2.1)
          go_wp2_with fail
          go_roundw
          case rel => exact ⟨q + 1, by omega, by go_num, (by rw [HV.out.1]; try rw [HPe.out]), by have h9 := HNx.out; have := HV.out.2.2; omega, HP2, HGa⟩
          case measure => simp [intOf]; omega
    · obtain rfl : q = l := by omega
      have hos : os.take q = os := List.take_of_length_le (by omega)
      rw [hos] at hb HP hp0
      by_cases h2 : pgsO os ≤ 200
      · have b2 : decide (pgsO os ≤ 200) = true := decide_eq_true h2
        have H2 := Lib.hid h2
        clear h2
        try simp only [hos]
        go_wp2_with fail
        go_ret
        exact ⟨_, rfl, HG.out, fun _ => ⟨by omega, HP.out, H2.out⟩⟩
      · have b2 : decide (pgsO os ≤ 200) = false := decide_eq_false h2
        clear h2
        try simp only [hos]
        go_wp2_with fail
        go_ret
        exact ⟨_, rfl, HG.out, fun h => by cases h⟩
end Go.Proofs.YtefiiooibbkffaaGreat

namespace Go.Proofs.YtefiiooibbkffaaGreat
open Go.ChangeShapes Go.WideShapes Go.ChangeAt Go.RowKit Go.Deep Go.Sort
set_option linter.unusedVariables false
set_option linter.unusedSimpArgs false

def runF (S : Fl) (os : List FOp) : Fl := os.foldl (fun S o => (S.act o).S) S
theorem runF_next {S : Fl} {os : List FOp} {q : Nat} {o : FOp} (h : os[q]? = some o) : runF S (os.take (q + 1)) = ((runF S (os.take q)).act o).S := by
  unfold runF
  rw [takel_at h, List.foldl_append]
  rfl
theorem si_new : SI (newF [3, 2]) 0 0 := by
  refine ⟨⟨fun q hq => ?_, fun q hq a ha => ?_, by decide, fun q hq => ?_⟩, ⟨by decide, fun n hn => ?_, by decide, by decide, by decide, by decide⟩⟩
  · simp only [newF, List.mem_singleton] at hq
    subst hq
    exact ⟨⟨mapL_nil, Int.le_refl _, fun x hx => by cases hx⟩, by decide⟩
  · simp only [newF, List.mem_singleton] at hq
    subst hq
    cases ha
  · simp only [newF, List.mem_singleton] at hq
    subst hq
    exact ⟨by decide, by decide⟩
  · simp only [newF] at hn
    rcases List.mem_cons.1 hn with rfl | hn
    · exact ⟨by decide, by decide⟩
    · rw [List.mem_singleton] at hn; subst hn; exact ⟨by decide, by decide⟩
theorem SI.run {S : Fl} {j : Nat} {n : Int} (h : SI S j n) (hn0 : 0 ≤ n) {os : List FOp} (hn : n + pgsO os ≤ 490) : ∀ q, q ≤ os.length → SI (runF S (os.take q)) (j + q) (n + pgsO (os.take q))
  | 0, _ => by simpa [runF, pgsO] using h
  | q + 1, hq => by
    obtain ⟨o, ho⟩ : ∃ o, os[q]? = some o := ⟨_, List.getElem?_eq_getElem (by omega)⟩
    have h1 := SI.run h hn0 hn q (by omega)
    have h2 := pgsO_le os q
    rw [runF_next ho, pgsO_next ho, ← Int.add_assoc]
    exact h1.act (by omega) (by omega)
set_option maxHeartbeats 4000000 in
theorem world_ok {w : World} {s : Option Addr} {l c : Nat} {os : List FOp} (hA : OpsAre w s l os) (hl : os.length ≤ 40) (hP : ∀ o, o ∈ os → lightP o) (hpg : pgsO os ≤ 200) :
    Calls Tryz.prog 26 #[.slice s l c] w fun e w' => ∃ r kd h, e = .returned (.pointer (some ⟨r, 0, none⟩)) ∧ FW w' kd 0 r h (runF (newF [3, 2]) os) ∧ Ch (own 0) (fun _ => .no) kd w w' := by
  have hll := hA.len
  have hz : ZR (w.alloc (.cells #[.int .i64 3, .int .i64 2] 3)) (.slice (some ⟨w.heap.size, 0, none⟩) [3, 2].length 2) [3, 2] := .inl ⟨rfl, .inr ⟨w.heap.size, 0, 2, rfl, by rw [World.size_alloc]; omega, fun j u hu => by
    rw [cell_of_row _ _ _ _ _ _ (heap_alloc_new w _), Nat.zero_add]
    match j, hu with
    | 0, hu => exact hu
    | 1, hu => exact hu⟩⟩
  have HN := Lib.hid (new_yes (w.alloc (.cells #[.int .i64 3, .int .i64 2] 3)) (fun _ => .no) 0 hz (by kernel_rfl))
  have HA := Lib.hid hA
  have HPl := Lib.hid hP
  have HPg := Lib.hid hpg
  have HSi := Lib.hid (fun q hq => si_new.run (Int.le_refl _) (os := os) (by omega) q hq)
  clear hz hA hP hpg
  go_enter Tryz.func26, Tryz.ntmps26
  go_wp2_with fail
  refine HN.out.mono ?_
  rintro e w1 ⟨r, kd1, h1, rfl, k1, c1⟩
  have HS0 := Lib.hid (show ∃ kd h, FW w1 kd 0 r h (runF (newF [3, 2]) (os.take 0)) ∧ Ch (own 0) (fun _ => .no) kd w w1 from ⟨kd1, h1, k1, (Ch.grown (World.grownBy_alloc w _ none)).trans (c1.mono fun _ e => (no_ro _ e).elim)⟩)
  clear k1 c1 HN
  go_wp2_with fail
  go_loopw [14] (fun iv wr => ∃ q : Nat, q ≤ l ∧ iv = .int .i64 q ∧ Hid (∃ kd h, FW wr kd 0 r h (runF (newF [3, 2]) (os.take q)) ∧ Ch (own 0) (fun _ => .no) kd w wr)) (fun iv _ => l - (intOf iv).toNat)
  case atStart => exact ⟨0, by omega, rfl, HS0⟩
  case round =>
    obtain ⟨q, hq, rfl, HS⟩ := hrel
    clear HS0
    by_cases hlt : q < l
    · obtain ⟨o, ho⟩ : ∃ o, os[q]? = some o := ⟨_, List.getElem?_eq_getElem (by omega)⟩
      obtain ⟨kd, h, k, cc⟩ := HS.out
      obtain ⟨g, p0, hs, ha⟩ := HA.out.at (cc.noGrown fun _ _ => own_no) ho
      subst hs
      obtain ⟨c0, c1, c2, c3, c4, c5, c6, c7, c8, c9, c10, c11, c12, c13⟩ := ha
      have gx := World.grownBy_alloc wr (.cells #[.int .i64 o.k, .int .i64 o.proc, .int .i64 o.addr, .int .i64 o.n, .int .i64 o.prot, .bool o.sh, .int .i64 o.file, .int .i64 o.off, .bool o.fixed, .int .i64 o.how, .int .i64 o.ati, .int .i64 o.v, .int .i64 o.hd, .int .i64 o.to] 34) none
      have hmem := List.mem_of_getElem? ho
      have hpl := pgsO_le os q
      have hpgs := HPg.out
      have HD := Lib.hid (do_all (k.grow gx) (HSi.out q (by omega)) (by omega) (by omega) (by omega) o (HA.out.ok o hmem) (HPl.out o hmem))
      have HC := Lib.hid (cc.trans (Ch.grown gx))
      have HNx := Lib.hid (runF_next (S := newF [3, 2]) ho)
      clear k cc gx hmem hpl ho HS
      go_wp2_with fail
      refine HD.out.mono ?_
      rintro e w5 ⟨rfl, kd5, h5, k5, cc5⟩
      have HS5 := Lib.hid (show ∃ kd h, FW w5 kd 0 r h (runF (newF [3, 2]) (os.take (q + 1))) ∧ Ch (own 0) (fun _ => .no) kd w w5 from ⟨kd5, h5, by rw [HNx.out]; exact k5, HC.out.trans cc5⟩)
      clear k5 cc5 HD HC HNx c0 c1 c2 c3 c4 c5 c6 c7 c8 c9 c10 c11 c12 c13
      go_wp2_with fail
      go_roundw
      case rel => exact ⟨q + 1, by omega, by go_num, HS5⟩
      case measure => simp [intOf]; omega
    · obtain rfl : q = l := by omega
      rw [show os.take q = os from List.take_of_length_le (by omega)] at HS
      obtain ⟨kd, h, k, cc⟩ := HS.out
      have HR := Lib.hid (And.intro k cc)
      clear k cc HS
      go_wp2_with fail
      go_ret
      exact ⟨r, kd, h, rfl, HR.out.1, HR.out.2⟩
end Go.Proofs.YtefiiooibbkffaaGreat

namespace Go.Proofs.YtefiiooibbkffaaGreat
open Go.ChangeShapes Go.WideShapes Go.ChangeAt Go.RowKit Go.Deep Go.Sort
set_option linter.unusedVariables false
set_option linter.unusedSimpArgs false

section
variable {S : Fl} {p : Pr} {o : FOp} {x : Int} {b : Option (List UInt8)}
theorem lay_H (id : Int) : (S.lay id p o).S.H = S.H := by
  unfold Fl.lay
  split
  · rfl
  · split
    · rfl
    · split <;> rfl
theorem send_H : (S.send p o).S.H = S.H := by
  cases ht : geA S.ps o.to with
  | none => rw [send_no7 ht]; rfl
  | some tp =>
    by_cases hm : mayB3 o.addr o.n = true
    · by_cases hl : (S.loadAll p o.addr (o.addr + o.n)).2 = 0
      · by_cases he : (S.lay o.to tp (layO o.n)).e = 0
        · cases h2 : geA (S.lay o.to tp (layO o.n)).S.ps o.to with
          | none =>
            unfold Fl.send
            rw [ht]
            simp only
            rw [if_pos hm, if_pos hl, if_pos he, h2]
            rfl
          | some t2 =>
            rw [send_all ht hm hl he h2]
            show (S.lay o.to tp (layO o.n)).S.H = S.H
            exact lay_H _
        · rw [send_noE ht hm hl he]; rfl
      · rw [send_noL ht hm hl]; rfl
    · rw [send_no2 ht hm]; rfl
theorem act_keeps (hk : o.k ≠ 14) (hx : geA S.H x = some b) : geA (S.act o).S.H x = some b := by
  by_cases hnm : namesB o.k = true
  · cases hp : geA S.ps o.proc with
    | none => rw [act_N hnm hp]; exact hx
    | some p =>
      rw [act_P hnm hp]
      unfold Fl.actP
      rcases names_cases hnm with hk | hk | hk | hk | hk | hk | hk | hk | hk | hk | hk | hk | hk <;> simp only [hk]
      · show geA (S.lay o.proc p o).S.H x = _; rw [lay_H]; exact hx
      · show geA (S.unmap p o).S.H x = _
        have : (S.unmap p o).S.H = S.H := by unfold Fl.unmap; split <;> rfl
        rw [this]; exact hx
      · exact hx
      · exact hx
      · show geA (S.advise p o).S.H x = _
        have : (S.advise p o).S.H = S.H := by unfold Fl.advise; split <;> rfl
        rw [this]; exact hx
      · exact hx
      · exact hx
      · exact hx
      · show geA (S.store p o).S.H x = _
        have : (S.store p o).S.H = S.H := by
          unfold Fl.store
          split
          · split
            · rfl
            · split <;> rfl
          · rfl
        rw [this]; exact hx
      · show geA (S.fork o.proc p).S.H x = _
        have : (S.fork o.proc p).S.H = S.H := by unfold Fl.fork; split <;> rfl
        rw [this]; exact hx
      · exact hx
      · show geA (S.lend p o).S.H x = _
        unfold Fl.lend
        split
        · split
          · show geA (puA S.H (lowA S.H) _) x = _
            obtain ⟨i0, e0, -, e2, -⟩ := lowA_spec S.H
            rw [geA_put, if_neg, hx]
            intro e
            rw [← e, e0, e2] at hx
            cases hx
          · exact hx
        · exact hx
      · show geA (S.send p o).S.H x = _; rw [send_H]; exact hx
  · unfold Fl.act
    rw [if_neg hnm]
    split
    · rw [peek_S]; exact hx
    · (try rw [if_neg hk])
      split
      · have : (S.put o).S.H = S.H := by unfold Fl.put; split <;> rfl
        rw [this]; exact hx
      · split
        · exact hx
        · split
          · have : (S.size o).S.H = S.H := by
              unfold Fl.size
              split
              · split <;> rfl
              · rfl
            rw [this]; exact hx
          · split
            · rw [sync_n.2]; exact hx
            · split <;> exact hx
end
theorem OpsAre.grow {w w' : World} {s : Option Addr} {l : Nat} {os : List FOp} (h : OpsAre w s l os) (g : w.grownBy w' none) : OpsAre w' s l os := ⟨h.len, h.cells.imp id fun ⟨b, p, hs, hc⟩ => ⟨b, p, hs, fun i A hA j u hu => (World.cell?_of_block (a := ⟨b, p + i * 14 + j, none⟩) (g.block b (World.block_lt_of_cell? w _ (hc i A hA j u hu)) (by simp))).trans (hc i A hA j u hu)⟩, h.ok⟩
def o12 (pg : Int) : FOp := ⟨12, 1, pg, 0, 0, false, 0, 0, false, 0, 0, 0, 0, 0⟩
def o13 (hd : Int) : FOp := ⟨13, 0, 0, 0, 0, false, 0, 0, false, 0, 5, 0, hd, 0⟩
def o14 (hd : Int) : FOp := ⟨14, 0, 0, 0, 0, false, 0, 0, false, 0, 0, 0, hd, 0⟩
theorem loan_facts {S : Fl} {pg : Int} (he : (S.act (o12 pg)).e = 0) : ∃ b, geA (S.act (o12 pg)).S.H (S.doN (o12 pg)) = some b ∧ S.byte 1 pg 5 = (atB b 5, 0) ∧ S.doN (o12 pg) = lowA S.H := by
  have hnm : namesB (o12 pg).k = true := by show namesB 12 = true; decide
  have hdn : S.doN (o12 pg) = (S.act (o12 pg)).n := by unfold Fl.doN; rw [if_pos he]
  cases hp : geA S.ps (o12 pg).proc with
  | none => rw [act_N hnm hp] at he; cases he
  | some p =>
    have e1 : S.act (o12 pg) = S.lend p (o12 pg) := by rw [act_P hnm hp]; rfl
    rw [hdn]
    rw [e1] at he ⊢
    unfold Fl.lend at he ⊢
    by_cases h0 : (S.reach p (o12 pg).addr 1 true).2 = 0
    · rw [if_pos h0] at he ⊢
      by_cases hl : S.H.length < 64
      · rw [if_pos hl]
        refine ⟨(S.reach p pg 1 true).1, ?_, ?_, rfl⟩
        · show geA (puA S.H (lowA S.H) _) (lowA S.H) = _
          rw [geA_put, if_pos rfl]
          rfl
        · have h2 : (S.reach p pg 1 true).2 = 0 := h0
          have h3 : S.reach p pg 1 true = S.look p pg := by
            unfold Fl.reach at h2 ⊢
            rw [if_pos rfl] at h2 ⊢
            cases ha : atV p.L pg with
            | none => rw [ha] at h2; cases h2
            | some e =>
              rw [ha] at h2
              simp only at h2 ⊢
              by_cases hc : canB e.p 1 = true
              · rw [if_pos hc]
              · rw [if_neg hc] at h2; cases h2
          rw [h3] at h2 ⊢
          have hp1 : geA S.ps 1 = some p := hp
          unfold Fl.byte
          rw [hp1]
          simp only
          rw [if_pos (by decide), h2]
      · rw [if_neg hl] at he; cases he
    · rw [if_neg h0] at he; exact absurd he h0
theorem peek_facts {S : Fl} {hd : Int} {b : Option (List UInt8)} (hx : geA S.H hd = some b) : (S.act (o13 hd)).e = 0 ∧ S.doN (o13 hd) = atB b 5 ∧ (S.act (o13 hd)).S = S := by
  have e1 : S.act (o13 hd) = S.peek (o13 hd) := rfl
  have e2 : S.peek (o13 hd) = S.ok (atB b 5) := by
    unfold Fl.peek
    rw [show (o13 hd).hd = hd from rfl, hx]
    rfl
  unfold Fl.doN
  rw [e1, e2]
  exact ⟨rfl, rfl, rfl⟩
theorem back_facts {S : Fl} {hd : Int} {b : Option (List UInt8)} (hx : geA S.H hd = some b) : (S.act (o14 hd)).e = 0 ∧ S.doN (o14 hd) = 0 ∧ geA (S.act (o14 hd)).S.H hd = none := by
  have e1 : S.act (o14 hd) = S.back (o14 hd) := rfl
  have e2 : S.back (o14 hd) = ({ S with H := drA S.H hd } : Fl).ok 0 := by
    unfold Fl.back
    rw [show (o14 hd).hd = hd from rfl, hx]
  unfold Fl.doN
  rw [e1, e2]
  refine ⟨rfl, rfl, ?_⟩
  show geA (drA S.H hd) hd = none
  rw [geA_drop, if_pos rfl]
theorem gone_facts {S : Fl} {hd : Int} (hx : geA S.H hd = none) : (S.act (o13 hd)).e = 7 ∧ S.doN (o13 hd) = 0 := by
  have e1 : S.act (o13 hd) = S.peek (o13 hd) := rfl
  have e2 : S.peek (o13 hd) = S.no 7 := by
    unfold Fl.peek
    rw [show (o13 hd).hd = hd from rfl, hx]
  unfold Fl.doN
  rw [e1, e2]
  exact ⟨rfl, rfl⟩
/-- All but returns. -/
def runL (S : Fl) (os : List FOp) : Fl := os.foldl (fun S o => if o.k = 14 then S else (S.act o).S) S
theorem runL_next {S : Fl} {os : List FOp} {q : Nat} {o : FOp} (h : os[q]? = some o) : runL S (os.take (q + 1)) = if o.k = 14 then runL S (os.take q) else ((runL S (os.take q)).act o).S := by
  unfold runL
  rw [takel_at h, List.foldl_append]
  rfl
theorem runL_keeps {x : Int} {b : Option (List UInt8)} : ∀ (os : List FOp) {S : Fl}, geA S.H x = some b → geA (runL S os).H x = some b
  | [], S, h => h
  | o :: os, S, h => by
    unfold runL
    rw [List.foldl_cons]
    split
    · exact runL_keeps os h
    · next hk => exact runL_keeps os (act_keeps hk h)
theorem SI.runL {S : Fl} {j : Nat} {n : Int} (h : SI S j n) (hn0 : 0 ≤ n) {os : List FOp} (hn : n + pgsO os ≤ 490) : ∀ q, q ≤ os.length → SI (Go.Proofs.YtefiiooibbkffaaGreat.runL S (os.take q)) (j + q) (n + pgsO (os.take q))
  | 0, _ => by simpa [Go.Proofs.YtefiiooibbkffaaGreat.runL, pgsO] using h
  | q + 1, hq => by
    obtain ⟨o, ho⟩ : ∃ o, os[q]? = some o := ⟨_, List.getElem?_eq_getElem (by omega)⟩
    have h1 := SI.runL h hn0 hn q (by omega)
    have h2 := pgsO_le os q
    have h3 := pgO_pos o
    rw [runL_next ho, pgsO_next ho, ← Int.add_assoc]
    split
    · exact h1.mono (by omega) (by omega)
    · exact h1.act (by omega) (by omega)
theorem St.grow {w0 w w' : World} {S : Fl} {r : Nat} {A : List (Nat × Int × Int)} (h : St w0 w S r A) (g : w.grownBy w' none) : St w0 w' S r A := by
  obtain ⟨kd, h, f, ha, c⟩ := h
  exact ⟨kd, h, f.grow g, fun a hm => (ha a hm).ch (R := noRo) (Ch.grown g) (no_ro _), c.trans (Ch.grown g)⟩
theorem St.run {w0 w : World} {S S' : Fl} {r : Nat} {A : List (Nat × Int × Int)} (h : St w0 w S r A) {f : FuncId} {args : Array Value} {v : Value}
    (hs : ∀ kd h, FW w kd 0 r h S → Calls Tryz.prog f args w fun e w' => e = .returned v ∧ Dn 0 r kd w w' S') :
    Calls Tryz.prog f args w fun e w' => e = .returned v ∧ St w0 w' S' r A := by
  obtain ⟨kd, h, f, ha, c⟩ := h
  exact (hs kd h f).mono fun e w' ⟨h1, kd2, h2, f2, c2⟩ => ⟨h1, kd2, h2, f2, fun a hm => (ha a hm).ch c2 own_no, c.trans c2⟩
theorem St.at {w0 w : World} {S : Fl} {r : Nat} {A : List (Nat × Int × Int)} (h : St w0 w S r A) {a : Nat × Int × Int} (hm : a ∈ A) : w.cell? ⟨a.1, 0, none⟩ = some (.int .i64 a.2.1) ∧ w.cell? ⟨a.1, 1, none⟩ = some (.int .i64 a.2.2) := by
  obtain ⟨kd, h, f, ha, c⟩ := h
  exact ⟨(ha a hm).c0, (ha a hm).c1⟩
end Go.Proofs.YtefiiooibbkffaaGreat
