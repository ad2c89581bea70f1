/- Package tlb's makeRoom: slices.Delete of the first key, delete in the map. -/
import Derived.Test.YtmddflhacamnaaaTDelF
import Derived.Deep.RegionLaw
import Derived.ArgAppend
namespace Go.Proofs.Ytmddflhacamnaaa
open Go.ChangeShapes Go.WideShapes Go.ChangeAt Go.RowKit Go.Deep
set_option linter.unusedVariables false

theorem keys_one (xs : List KeptV) : ∀ u, u ∈ xs.flatMap keyCells → u.oneCell' = true := by
  intro u hu
  obtain ⟨x, _, hx⟩ := List.mem_flatMap.1 hu
  simp [keyCells] at hx
  rcases hx with rfl | rfl <;> rfl
theorem info_tkey : (Try.prog.info? 29).map (fun i => (i.zero, i.size, i.bytes)) = some (some (.agg #[.int .i64 0, .int .i64 0]), 2, 16) := by kernel_rfl

section
variable {W W' : World} {G cap m : Nat} {xs ys : List KeptV}

/-- All but the first, moved by one place. -/
theorem KRow.moved (h : KRow W G cap [] xs 0) (hm : xs.length = m + 1) : KRow (W.setCells G 0 ((xs.drop 1).flatMap keyCells)) G cap (xs.drop 1) xs xs.length := by
  obtain ⟨cur, h1, h2, h3, h4, h5, h6⟩ := h
  obtain ⟨cur', g1, g2, g3, g4⟩ := setCells_block G ((xs.drop 1).flatMap keyCells) 0 W cur _ h1
  have hl : ((xs.drop 1).flatMap keyCells).length = m * 2 := by rw [flat_len keyCells 2 key_len, List.length_drop, hm]; rfl
  refine ⟨cur', g1, by rw [g2, h2], h3, h4, fun t y ht => ?_, fun t y ht hy => ?_⟩
  · have ht2 := (List.getElem?_eq_some_iff.1 ht).1
    rw [List.length_drop, hm] at ht2
    have e0 := g4 (t * 2) (by omega) (by omega)
    have e1 := g4 (t * 2 + 1) (by omega) (by omega)
    rw [Nat.zero_add] at e0 e1
    have f0 := flat_at keyCells 2 key_len _ t y ht 0 _ rfl
    have f1 := flat_at keyCells 2 key_len _ t y ht 1 _ rfl
    rw [Nat.add_zero] at f0
    exact ⟨e0.trans f0, e1.trans f1⟩
  · have := (List.getElem?_eq_some_iff.1 hy).1
    omega

/-- The cells that are moved. -/
theorem KRow.news (h : KRow W G cap [] xs 0) (j : Nat) (u : Value) (hu : ((xs.drop 1).flatMap keyCells)[j]? = some u) : W.cell? ⟨G, 2 + j, none⟩ = some u := by
  have hj := (List.getElem?_eq_some_iff.1 hu).1
  rw [flat_len keyCells 2 key_len, List.length_drop] at hj
  obtain ⟨y, hy⟩ : ∃ y, (xs.drop 1)[j / 2]? = some y := ⟨_, List.getElem?_eq_getElem (by rw [List.length_drop]; omega)⟩
  have hy2 := hy
  rw [List.getElem?_drop] at hy2
  obtain ⟨c0, c1⟩ := h.at (Nat.zero_le _) hy2
  rcases (show j = j / 2 * 2 ∨ j = j / 2 * 2 + 1 by omega) with e | e
  · have f0 := flat_at keyCells 2 key_len _ _ y hy 0 _ rfl
    rw [Nat.add_zero, ← e, hu] at f0
    rw [f0, ← c0]
    congr 2
    omega
  · have f0 := flat_at keyCells 2 key_len _ _ y hy 1 _ rfl
    rw [← e, hu] at f0
    rw [f0, ← c1]
    congr 2
    omega

set_option maxHeartbeats 1000000 in
theorem delete_walk (h : KRow W G cap [] xs 0) (hm : xs.length = m + 1) :
    Calls Try.prog 30 #[.slice (some ⟨G, 0, none⟩) (m + 1) cap, .int .i64 0, .int .i64 1] W fun e W' =>
      e = .returned (.slice (some ⟨G, 0, none⟩) m cap) ∧ KRow W' G cap (xs.drop 1) xs xs.length ∧ W.grownBy W' (some G) := by
  obtain ⟨i0, hi0, hz0, hz1, hz2⟩ := info_parts info_tkey
  have hd : KRow W.drew G cap [] xs 0 := h.kept rfl
  obtain ⟨cur, _, _, hcap0, hmax, _⟩ := h
  have hcap : m + 1 ≤ cap := by rw [← hm]; exact hcap0
  have hcm : cap ≤ 9223372036854775807 := by unfold maxLen at hmax; omega
  have hl : ((xs.drop 1).flatMap keyCells).length = m * 2 := by rw [flat_len keyCells 2 key_len, List.length_drop, hm]; rfl
  obtain ⟨A, hA, hnews⟩ : ∃ A : Addr, (if cap = 1 then some (⟨G, 0, none⟩ : Addr) else some ⟨G, 2, none⟩) = some A ∧ Hid (∀ j u, ((xs.drop 1).flatMap keyCells)[j]? = some u → W.drew.cell? (A.add j) = some u) := by
    by_cases h1 : cap = 1
    · refine ⟨⟨G, 0, none⟩, by simp [h1], fun j u hu => ?_⟩
      have := (List.getElem?_eq_some_iff.1 hu).1
      omega
    · refine ⟨⟨G, 2, none⟩, by simp [h1], fun j u hu => ?_⟩
      rw [Addr.add_lit]
      exact hd.news j u hu
  have s1 := Lib.hid hl
  have s2 := Lib.hid (keys_one (xs.drop 1))
  have s3 : Hid (∀ j, j < ((xs.drop 1).flatMap keyCells).length → (W.drew.cell? ⟨G, 0 + 0 * 2 + j, none⟩).isSome = true ∧ W.drew.frozen? ⟨G, 0 + 0 * 2 + j, none⟩ = false) := fun j hj => by
    rw [hl] at hj
    obtain ⟨u, hu⟩ := hd.there (o := 0 + 0 * 2 + j) (by omega)
    exact ⟨by rw [hu]; rfl, hd.frozen _⟩
  have hK1 := hd.moved hm
  have hcm2 : ¬ cap = m := by omega
  have hp1 : (1 : Int) ≤ (m : Int) + 1 := by omega
  generalize hF : (xs.drop 1).flatMap keyCells = F at *
  have hcl : ∀ ty, (Builtin.clear_ #[44] ty #[.slice (some ⟨G, m * 2, none⟩) 1 (cap - m)]).run Try.prog (W.drew.setCells G 0 F) = .ok (.tuple #[]) ((W.drew.setCells G 0 F).setCells G (m * 2) (zeroKeys 1)) :=
    fun ty => run_clear_keys _ ty G (m * 2) _ _ fun t ht => ⟨hK1.there (by omega), hK1.frozen _⟩
  have HK := Lib.hid (show KRow ((W.drew.setCells G 0 F).setCells G (m * 2) (zeroKeys 1)) G cap (xs.drop 1) xs xs.length by
    have := hK1.cleared (zeroKeys 1)
    rwa [List.length_drop, hm, Nat.add_sub_cancel, ← hm] at this)
  have HG := Lib.hid (show W.grownBy ((W.drew.setCells G 0 F).setCells G (m * 2) (zeroKeys 1)) (some G) from by
    have g1 := setCells_grown G F 0 W.drew
    have g2 := setCells_grown G (zeroKeys 1) (m * 2) (W.drew.setCells G 0 F)
    exact ⟨g2.os.trans g1.os, g2.tape.trans g1.tape, g2.output.trans g1.output, Nat.le_trans g1.size g2.size, fun k hk hne => (g2.block k (Nat.lt_of_lt_of_le hk g1.size) hne).trans (g1.block k hk hne)⟩)
  clear hK1 hd hl hcap0 hmax hF
  go_enter Try.func30, Try.ntmps30
  go_wp2_with fail
  go_region_law (refine step_append_room rfl (.tmp 22) (.tmp 25) 44 rfl 29 i0 2 Try.underlying44 hi0 hz1 G 0 0 cap (by simp [Act.eval, Act.put]) A m (cap - 1) F (by simp [Act.eval, Act.put]) s1.out hnews.out s2.out (by omega) s3.out ?_)
  all_goals go_wp2_with fail
  all_goals go_ret
  all_goals exact ⟨rfl, HK.out, HG.out⟩

/-- There is room already. -/
theorem room_few {w : World} {p M : Nat} {sz : Int} {v : Value} (h : TabT w p sz xs M v) (hl : (xs.length : Int) < sz) :
    Calls Try.prog 23 #[.pointer (some ⟨p, 0, none⟩)] w fun e w' => e = .returned (.tuple #[]) ∧ w.grownBy w' none := by
  obtain ⟨s, c, rfl⟩ := h.form
  have hd := h.grow (grown_drew1 w)
  have s2 := Lib.hid (show w.drew.cell? ⟨p, 0, none⟩ = some (.int .i64 sz) ∧ w.drew.cell? ⟨p, 2, none⟩ = some (.slice s xs.length c) from ⟨hd.at.1, hd.at.2.2⟩)
  clear h hd
  go_enter Try.func23, Try.ntmps23
  go_wp2_with fail
  go_region_held3 (fun W' => W'.cell? ⟨p, 0, none⟩ = some (.int .i64 sz) ∧ W'.cell? ⟨p, 2, none⟩ = some (.slice s xs.length c)) (exact s2.out) (fail)
  go_wp2_with fail
  refine bodyPost_ret (results_none rfl _ _ _) rfl ?_
  exact ⟨rfl, grown_drew1 w⟩

theorem drop_first {x : KeptV} {xs : List KeptV} (hk : Keys (x :: xs)) : dropK (sameK x.a x.v) (x :: xs) = xs := by
  unfold dropK
  rw [List.filter_cons_of_neg (by simp [sameK])]
  have := hk.apart
  rw [List.pairwise_cons] at this
  refine List.filter_eq_self.2 fun y hy => ?_
  cases hc : sameK x.a x.v y with
  | false => rfl
  | true =>
    have h2 := sameK_iff.1 hc
    exact absurd ⟨h2.1.symm, h2.2.symm⟩ (this.1 y hy)

/-- What makeRoom leaves. -/
def RoomLeft (p M : Nat) (sz : Int) (v : Value) (zs : List KeptV) (w w' : World) : Prop := ∃ v', TabT w' p sz zs M v' ∧ v'.ownBlock = v.ownBlock ∧ Turn (p :: M :: v.ownBlock.toList) w w'

set_option maxHeartbeats 1000000 in
theorem room_full {w : World} {p M : Nat} {sz : Int} {v : Value} {x : KeptV} (h : TabT w p sz (x :: xs) M v) (hl : ((x :: xs).length : Int) = sz) :
    Calls Try.prog 23 #[.pointer (some ⟨p, 0, none⟩)] w fun e w' => e = .returned (.tuple #[]) ∧ RoomLeft p M sz v xs w w' := by
  obtain ⟨G, cap, cur, rfl, _⟩ : ∃ G cap cur, v = .slice (some ⟨G, 0, none⟩) (x :: xs).length cap ∧ w.heap[G]? = some (.cells cur 29 (0, 0)) := by
    rcases h.row.2 with ⟨_, h0⟩ | ⟨G, cap, cur, e, _, hb, _⟩
    · cases h0
    · exact ⟨G, cap, cur, e, hb⟩
  have hd := h.grow (grown_drew1 w)
  have hdd := hd.grow (grown_drew1 w.drew)
  have hr2 := KRow.of_own hd.row
  have hr3 := KRow.of_own hdd.row
  have hok := h.keys.ok x List.mem_cons_self
  obtain ⟨W3, hrun0, hm3, ht3⟩ := hdd.map.strike hdd.keys.ok hok.1 hok.2 0
  rw [drop_first h.keys] at hm3
  have g3 := ht3.grown
  have hne := hdd.apart
  have hp3 : W3.heap[p]? = some (.cells #[.int .i64 sz, .map (some M), .slice (some ⟨G, 0, none⟩) (x :: xs).length cap] 57 (0, 0)) := (g3.block p hdd.plt (fun e => hne.1 (Option.some.inj e).symm)).trans hdd.block
  have hk3 : KRow W3 G cap [] (x :: xs) 0 := hr3.kept (g3.block G hr3.lt (fun e => hne.2.2 (by rw [← e]; rfl)))
  have hsz : sz = (xs.length : Int) + 1 := by rw [← hl]; simp
  have hkeys := h.keys.sub (List.sublist_cons_self x xs)
  have h0 := h.sz1
  obtain ⟨xa, xv, xf, xp⟩ := x
  simp only at *
  have hrun : ∀ ty, (Builtin.delete_ #[55, 29] ty #[.map (some M), .agg #[.int .i64 xa, .int .i64 xv]]).run Try.prog w.drew.drew = .ok (.tuple #[]) W3 := fun _ => hrun0
  rw [List.length_cons] at hd hdd hp3
  have s1 := Lib.hid (show w.drew.cell? ⟨p, 0, none⟩ = some (.int .i64 sz) ∧ w.drew.cell? ⟨p, 2, none⟩ = some (.slice (some ⟨G, 0, none⟩) (xs.length + 1) cap) from ⟨hd.at.1, hd.at.2.2⟩)
  have s2 := Lib.hid (show (w.drew.drew.cell? ⟨p, 1, none⟩ = some (.map (some M)) ∧ w.drew.drew.cell? ⟨p, 2, none⟩ = some (.slice (some ⟨G, 0, none⟩) (xs.length + 1) cap)) ∧ w.drew.drew.cell? ⟨G, 0, none⟩ = some (.int .i64 xa) ∧ w.drew.drew.cell? ⟨G, 1, none⟩ = some (.int .i64 xv) from ⟨hdd.at.2, by have := hr3.at (Nat.zero_le 0) (y := ⟨xa, xv, xf, xp⟩) rfl; simpa using this⟩)
  have hcp3 : W3.cell? ⟨p, 1, none⟩ = some (.map (some M)) ∧ W3.cell? ⟨p, 2, none⟩ = some (.slice (some ⟨G, 0, none⟩) (xs.length + 1) cap) := ⟨by rw [cell_of_row _ _ _ _ _ _ hp3]; rfl, by rw [cell_of_row _ _ _ _ _ _ hp3]; rfl⟩
  have s3 := Lib.hid (show (W3.cell? ⟨p, 1, none⟩ = some (.map (some M)) ∧ W3.cell? ⟨p, 2, none⟩ = some (.slice (some ⟨G, 0, none⟩) (xs.length + 1) cap)) ∧ W3.cell? ⟨G, 0, none⟩ = some (.int .i64 xa) ∧ W3.cell? ⟨G, 1, none⟩ = some (.int .i64 xv) from ⟨hcp3, by have := hk3.at (Nat.zero_le 0) (y := ⟨xa, xv, xf, xp⟩) rfl; simpa using this⟩)
  have HDel := Lib.hid (delete_walk hk3 (m := xs.length) rfl)
  have HP3 := Lib.hid hp3
  have HM3 := Lib.hid hm3
  have HNE := Lib.hid (show G ≠ p ∧ G ≠ M ∧ M ≠ p from ⟨fun e => hne.2.1 (by rw [e]; rfl), fun e => hne.2.2 (by rw [e]; rfl), hne.1⟩)
  have HT3 := Lib.hid (show Turn [M] w W3 from (Turn.grown (grown_trans (grown_drew1 w) (grown_drew1 w.drew))).trans' (Turn.one g3 (by simp)))
  have HKS := Lib.hid hkeys
  clear h hd hdd hr2 hr3 hm3 ht3 g3 hne hp3 hk3 hrun0 hok hl hcp3 hkeys
  go_enter Try.func23, Try.ntmps23
  go_wp2_with fail
  go_region_held3 (fun W' => W'.cell? ⟨p, 0, none⟩ = some (.int .i64 sz) ∧ W'.cell? ⟨p, 2, none⟩ = some (.slice (some ⟨G, 0, none⟩) (xs.length + 1) cap)) (exact s1.out) (fail)
  have hnl : ¬ ((xs.length : Int) + 1 < sz) := by omega
  go_wp2_with fail
  go_region_held3 (fun W' => (W'.cell? ⟨p, 1, none⟩ = some (.map (some M)) ∧ W'.cell? ⟨p, 2, none⟩ = some (.slice (some ⟨G, 0, none⟩) (xs.length + 1) cap)) ∧ W'.cell? ⟨G, 0, none⟩ = some (.int .i64 xa) ∧ W'.cell? ⟨G, 1, none⟩ = some (.int .i64 xv))
    (first | exact s2.out | exact s3.out) (fail)
  go_wp2_with fail
  refine HDel.out.mono ?_
  rintro e W4 ⟨rfl, hk4, g4⟩
  have hp4 : W4.heap[p]? = some (.cells #[.int .i64 sz, .map (some M), .slice (some ⟨G, 0, none⟩) (xs.length + 1) cap] 57 (0, 0)) := (g4.block p (Array.getElem?_eq_some_iff.1 HP3.out).1 (fun e => HNE.out.1 (Option.some.inj e).symm)).trans HP3.out
  have hm4 := HM3.out.kept (g4.block M HM3.out.lt (fun e => HNE.out.2.1 (Option.some.inj e).symm))
  have cp4 : W4.cell? ⟨p, 2, none⟩ = some (.slice (some ⟨G, 0, none⟩) (xs.length + 1) cap) := by rw [cell_of_row _ _ _ _ _ _ hp4]; rfl
  have fp4 := frozen_of_row W4 p 2 _ _ hp4
  have HP4 := Lib.hid hp4
  have HM4 := Lib.hid hm4
  have HK4 := Lib.hid hk4
  have HG4 := Lib.hid g4
  clear hp4 hm4 hk4 g4 s1 s2 s3 hrun HDel
  go_wp2_with fail
  go_end0
  have ho : ∀ b, b ≠ p → (W4.setCell ⟨p, 2, none⟩ (.slice (some ⟨G, 0, none⟩) xs.length cap)).heap[b]? = W4.heap[b]? := fun b hb => heap_setCell_other W4 _ b _ (by first | exact hb | exact hb.symm)
  have hle : xs.length ≤ cap := by obtain ⟨_, _, _, h4, _⟩ := HK4.out; rw [List.length_cons] at h4; omega
  refine ⟨rfl, .slice (some ⟨G, 0, none⟩) xs.length cap, ⟨heap_setCell_same W4 p 2 _ _ _ HP4.out, ?_, HM4.out.kept (ho M HNE.out.2.2), HKS.out, by omega, by omega, h0⟩, rfl, ?_⟩
  · exact (HK4.out.kept (ho G HNE.out.1)).own hle
  · exact ((HT3.out.mono (by simp)).trans' (Turn.one HG4.out (by simp [Value.ownBlock]))).trans' (Turn.setCell _ _ _ _ _ (by simp))
end
end Go.Proofs.Ytmddflhacamnaaa
