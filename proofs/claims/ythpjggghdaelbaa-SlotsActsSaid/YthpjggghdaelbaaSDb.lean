/- Package slots: New, Count, Words. -/
import Derived.Test.YthpjggghdaelbaaSDa
import Derived.Laws.CopyOwn
import Derived.Deep.OwnRows
namespace Go.Proofs.Ythpjggghdaelbaa
open Go.ChangeShapes Go.WideShapes Go.ChangeAt Go.RowKit Go.Deep
set_option linter.unusedVariables false

theorem made_words (n : Nat) : madeCells #[Value.int .u64 0] n = ((List.replicate n 0).map wv).toArray := by
  apply Array.ext
  · simp [madeCells]
  · intro i h1 h2
    simp [madeCells, wv, Nat.mod_one]
theorem run_make_words (n : Nat) (hn : n ≤ 1000) (w : World) :
    (Instr.makeSlice 36 (.int .i64 (n : Int)) (.int .i64 (n : Int))).run Try.prog w = .ok (.slice (some ⟨w.heap.size, 0, none⟩) n n) (w.alloc (.cells ((List.replicate n 0).map wv).toArray 43)) := by
  have h := run_make_row' (P := Try.prog) 36 43 (.int .u64 0) 8 Try.underlying36 (by kernel_rfl) rfl .i64 .i64 n (by omega) (by omega) w
  rw [made_words] at h
  exact h

theorem sl_new_no (n : Int) (w : World) (h : ¬ (0 ≤ n ∧ n ≤ 256)) : Calls Try.prog 8 #[.int .i64 n] w fun e w' => e = .returned (.pointer none) ∧ w' = w := by
  rcases (show n < 0 ∨ (¬ n < 0 ∧ 256 < n) by omega) with h1 | ⟨h1, h2⟩
  all_goals
    clear h
    go_enter Try.func8, Try.ntmps8
    go_wp2_with fail
    go_ret
    exact ⟨rfl, rfl⟩

theorem SP.fresh {n a b : Nat} {m : Nat} (hn : n ≤ 256) (hm : (n + 63) / 64 = m) {w3 : World} {r : Nat}
    (hr : w3.heap[r]? = some (.cells #[.int .i64 (n : Int), .slice (some ⟨a, 0, none⟩) m m, .slice (some ⟨b, 0, none⟩) m m] 46 (0, 0)))
    (ha : WRow w3 a (List.replicate m 0)) (hb : WRow w3 b (List.replicate m 0)) (hne : a ≠ b) : SP w3 r (List.replicate n 0) a b := by
  have hL : mOf (List.replicate n (0 : Int)) = m := by unfold mOf; rw [List.length_replicate]; exact hm
  have hz : ∀ j, (List.replicate n (0 : Int)).getD j 0 = 0 := fun j => by
    unfold List.getD
    rw [List.getElem?_replicate]
    split <;> rfl
  refine ⟨by rw [hL, List.length_replicate]; exact hr, ⟨_, ha, ?_⟩, ⟨_, hb, ?_⟩, GoodL.new n hn, hne⟩
  · rw [hL]; exact (WordsAre.zero m).congr fun j _ => by unfold usedB; rw [hz]; rfl
  · rw [hL]; exact (WordsAre.zero m).congr fun j _ => by unfold badB; rw [hz]; rfl

theorem three_new (w : World) (A B o : Obj) : (((w.alloc A).alloc B).alloc o).heap[w.heap.size + 1 + 1]? = some o ∧ (((w.alloc A).alloc B).alloc o).heap[w.heap.size]? = some A ∧ (((w.alloc A).alloc B).alloc o).heap[w.heap.size + 1]? = some B ∧ w.grownBy (((w.alloc A).alloc B).alloc o) none := by
  have h1 := heap_alloc_new ((w.alloc A).alloc B) o
  have h2 := heap_alloc_new (w.alloc A) B
  rw [World.size_alloc, World.size_alloc] at h1
  rw [World.size_alloc] at h2
  refine ⟨h1, ?_, ?_, grown_trans (World.grownBy_alloc w A none) (grown_trans (World.grownBy_alloc _ B none) (World.grownBy_alloc _ o none))⟩
  · rw [heap_alloc_old _ _ (by simp; omega), heap_alloc_old _ _ (by simp)]
    exact heap_alloc_new w A
  · rw [heap_alloc_old _ _ (by simp)]
    exact h2
theorem sl_new_ok (n : Nat) (w : World) (hn : n ≤ 256) :
    Calls Try.prog 8 #[.int .i64 (n : Int)] w fun e w' => ∃ r gu gs, e = .returned (.pointer (some ⟨r, 0, none⟩)) ∧ SP w' r (List.replicate n 0) gu gs ∧ w.grownBy w' none ∧ ∀ b, b ∈ [r, gu, gs] → w.heap.size ≤ b := by
  obtain ⟨m, hm⟩ : ∃ m, (n + 63) / 64 = m := ⟨_, rfl⟩
  have hm4 : m ≤ 1000 := by omega
  have hmk := run_make_words m hm4
  obtain ⟨X, hX⟩ : ∃ X, X = ((List.replicate m 0).map wv).toArray := ⟨_, rfl⟩
  rw [← hX] at hmk
  have HF := Lib.hid (show ∀ a b : Nat, (a = w.heap.size ∧ b = w.heap.size + 1 ∨ a = w.heap.size + 1 ∧ b = w.heap.size) →
      SP (((w.alloc (.cells X 43)).alloc (.cells X 43)).alloc (.cells #[.int .i64 (n : Int), .slice (some ⟨a, 0, none⟩) m m, .slice (some ⟨b, 0, none⟩) m m] 46)).drew (w.heap.size + 1 + 1) (List.replicate n 0) a b ∧
      w.grownBy (((w.alloc (.cells X 43)).alloc (.cells X 43)).alloc (.cells #[.int .i64 (n : Int), .slice (some ⟨a, 0, none⟩) m m, .slice (some ⟨b, 0, none⟩) m m] 46)).drew none from fun a b hab => by
    obtain ⟨t1, t2, t3, t4⟩ := three_new w (.cells X 43) (.cells X 43) (.cells #[.int .i64 (n : Int), .slice (some ⟨a, 0, none⟩) m m, .slice (some ⟨b, 0, none⟩) m m] 46)
    refine ⟨SP.fresh hn hm t1 ?_ ?_ (by omega), grown_then t4⟩
    · unfold WRow; rw [← hX]; rcases hab with ⟨rfl, -⟩ | ⟨rfl, -⟩; exact t2; exact t3
    · unfold WRow; rw [← hX]; rcases hab with ⟨-, rfl⟩ | ⟨-, rfl⟩; exact t3; exact t2)
  have h3 : ((n : Int) + 63) / 64 = (m : Int) := by omega
  clear hX hm
  go_enter Try.func8, Try.ntmps8
  go_wp2_with fail
  go_region
  all_goals
    go_wp2_with fail
    go_ret
    first
      | (obtain ⟨f1, f2⟩ := HF.out w.heap.size (w.heap.size + 1) (.inl ⟨rfl, rfl⟩); exact ⟨_, _, _, rfl, f1, f2, by intro b hb; simp at hb; omega⟩)
      | (obtain ⟨f1, f2⟩ := HF.out (w.heap.size + 1) w.heap.size (.inr ⟨rfl, rfl⟩); exact ⟨_, _, _, rfl, f1, f2, by intro b hb; simp at hb; omega⟩)

section
variable {w w' : World} {r gu gs : Nat} {L : List Int}
theorem sl_count (h : SP w r L gu gs) (s : Int) : Calls Try.prog 21 #[.pointer (some ⟨r, 0, none⟩), .int .i64 s] w fun e w' => e = .returned (.int .i64 (countL L s)) ∧ w' = w := by
  obtain ⟨c0, c1, c2⟩ := h.at
  have hq := eql_slots_nil
  have HS := Lib.hid fun i => sl_state h i
  have hl := h.good.len
  clear h
  go_enter Try.func21, Try.ntmps21
  go_wp2_with fail
  go_loopw [5, 6, 13] (fun nv _ iv wr => ∃ (j : Nat) (k : Int), j ≤ L.length ∧ iv = .int .i64 j ∧ nv = .int .i64 k ∧ 0 ≤ k ∧ k ≤ j ∧ Hid (k = countL (L.take j) s) ∧ Hid (wr = w)) (fun _ _ iv _ => L.length - (intOf iv).toNat)
  case atStart => exact ⟨0, 0, by omega, rfl, rfl, by omega, by omega, rfl, rfl⟩
  case round =>
    obtain ⟨j, k, hj, rfl, rfl, hk0, hk1, HKj, hwr⟩ := hrel
    have hwr2 := hwr.out
    subst hwr2
    by_cases hlt : j < L.length
    · obtain ⟨x, hx⟩ : ∃ x, L[j]? = some x := ⟨_, List.getElem?_eq_getElem hlt⟩
      have hst := HS.out j
      rw [stL_in hlt, getD_get hx] at hst
      have HSt := Lib.hid hst
      have hn := count_take hx s
      clear hst hx
      by_cases hc : x = s
      · rw [if_pos hc] at hn
        have hb : (x == s) = true := by simpa using hc
        have HN := Lib.hid hn
        clear hn hc
        go_wp2_with fail
        refine HSt.out.mono ?_
        rintro e w2 ⟨rfl, e2⟩
        subst w2
        go_wp2_with fail
        go_roundw
        case rel => exact ⟨j + 1, k + 1, by omega, by go_num, rfl, by omega, by omega, by show k + 1 = _; rw [HN.out, ← HKj.out], by first | exact rfl | exact trivial⟩
        case measure => simp [intOf]; omega
      · rw [if_neg hc, Int.add_zero] at hn
        have hb : (x == s) = false := by simpa using hc
        have HN := Lib.hid hn
        clear hn hc
        go_wp2_with fail
        refine HSt.out.mono ?_
        rintro e w2 ⟨rfl, e2⟩
        subst w2
        go_wp2_with fail
        go_roundw
        case rel => exact ⟨j + 1, k, by omega, by go_num, rfl, by omega, by omega, by show k = _; rw [HN.out, ← HKj.out], by first | exact rfl | exact trivial⟩
        case measure => simp [intOf]; omega
    · obtain rfl : j = L.length := by omega
      have hk := HKj.out
      rw [List.take_of_length_le (Nat.le_refl _)] at hk
      have HK2 := Lib.hid hk
      clear hk
      go_wp2_with fail
      go_ret
      exact ⟨by rw [← HK2.out]; rfl, rfl⟩

theorem splice_whole {α : Type} (Z X : List α) (h : Z.length = X.length) : splice Z 0 X = X := by
  simp [splice, ← h]
theorem sl_words (h : SP w r L gu gs) : Calls Try.prog 24 #[.pointer (some ⟨r, 0, none⟩)] w fun e w' => ∃ g us, e = .returned (.slice (some ⟨g, 0, none⟩) (mOf L) (mOf L)) ∧ WRow w' g us ∧ WordsAre (usedB L) (mOf L) us ∧ w.grownBy w' none ∧ w.heap.size ≤ g := by
  obtain ⟨c0, c1, c2⟩ := h.at
  have hq := eql_slots_nil
  obtain ⟨us, u1, u2⟩ := h.used
  have hm4 := mOf_le h.good
  have hlen := u2.len
  have HU := Lib.hid u1
  have HW := Lib.hid u2
  generalize mOf L = m at *
  have hmk := run_make_words m (by omega) w
  have ga := World.grownBy_alloc w (.cells ((List.replicate m 0).map wv).toArray 43) none
  have hnew := heap_alloc_new w (.cells ((List.replicate m 0).map wv).toArray 43)
  have k0 : (w.alloc (.cells ((List.replicate m 0).map wv).toArray 43)).cell? ⟨r, 0, none⟩ = some (.int .i64 (L.length : Int)) := Lib.cell?_alloc_some _ c0
  have k1 : (w.alloc (.cells ((List.replicate m 0).map wv).toArray 43)).cell? ⟨r, 1, none⟩ = some (.slice (some ⟨gu, 0, none⟩) m m) := Lib.cell?_alloc_some _ c1
  have hsrc : ∀ j v, (us.map wv)[j]? = some v → (w.alloc (.cells ((List.replicate m 0).map wv).toArray 43)).cell? ((⟨gu, 0, none⟩ : Addr).add j) = some v := fun j v hv => by
    rw [List.getElem?_map] at hv
    obtain ⟨u, hu, rfl⟩ := Option.map_eq_some_iff.1 hv
    rw [Addr.add_mid, Nat.zero_add]
    exact ((u1.kept (ga.block gu u1.lt (by simp))).at hu).1
  generalize hwA : w.alloc (.cells ((List.replicate m 0).map wv).toArray 43) = wA at *
  obtain ⟨w9, h9, b9, hcopy⟩ : ∃ w9, WRow w9 w.heap.size us ∧ Below w.heap.size wA w9 ∧ (Builtin.copy_ #[36, 36] 3 #[.slice (some ⟨w.heap.size, 0, none⟩) m m, .slice (some ⟨gu, 0, none⟩) m m]).run Try.prog wA = .ok (.int .i64 (m : Int)) w9 := by
    have hrun := run_copy_row (P := Try.prog) wA 36 36 3 43 w.heap.size 0 m m ⟨gu, 0, none⟩ m m _ 43 (us.map wv) Try.underlying36 (by kernel_rfl) hnew (by simp [hlen]) hsrc (by simp [hlen]) (by intro v hv; obtain ⟨u, -, rfl⟩ := List.mem_map.1 hv; rfl)
    rw [List.length_map, hlen] at hrun
    refine ⟨_, ?_, below_setRow (Below.refl _ _) (Nat.le_refl _) _, hrun⟩
    unfold WRow
    refine (setRow_heap wA w.heap.size _ _ 43 _ hnew).trans ?_
    simp
  have HG := Lib.hid (grown_of_below ((below_of_grown ga (Nat.le_refl _) (by simp)).trans b9) none)
  have H9 := Lib.hid h9
  clear h u1 u2 hnew ga hsrc h9 b9
  go_enter Try.func24, Try.ntmps24
  go_wp2_with fail
  go_ret
  exact ⟨w.heap.size, us, rfl, H9.out, HW.out, HG.out, Nat.le_refl _⟩
end
end Go.Proofs.Ythpjggghdaelbaa
