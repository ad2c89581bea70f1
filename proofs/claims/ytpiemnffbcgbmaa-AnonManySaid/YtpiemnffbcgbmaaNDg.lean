/- Package anon (landed): New. -/
import Derived.Test.YtpiemnffbcgbmaaNDf
namespace Go.Proofs.Ytpiemnffbcgbmaa
open Go.ChangeShapes Go.WideShapes Go.ChangeAt Go.RowKit Go.Deep
set_option linter.unusedVariables false

/-- In the loop of New: the first numbers stand in the heap. -/
structure NewI (w wr : World) (p M j : Nat) (hv : Value) (zs : List Int) : Prop where
  free : FreeS wr p (.map (some M)) hv zs
  nums : zs.Perm (freeTo [] j)
  map : MapOf Try.prog 3 klI wr M []
  own : ∀ b, b ∈ blkH p hv → w.heap.size ≤ b
  grown : w.grownBy wr none
section
variable {w wr w2 : World} {p M j : Nat} {hv : Value} {zs : List Int}
theorem newI_len (h : NewI w wr p M j hv zs) : zs.length = j := by
  rw [h.nums.length_eq]
  have := ids_free [] j
  have h2 := idsTo_ge (L := []) (n := j) (Nat.zero_le _)
  have h3 : idsN [] = [] := rfl
  rw [h2, h3] at this
  simpa using this
theorem NewI.next (h : NewI w wr p M j hv zs) {zs' : List Int} (hz : zs'.Perm (((j : Int) + 1) :: zs)) (hf : FreeLeft wr w2 p (.map (some M)) hv zs') : ∃ hv', NewI w w2 p M (j + 1) hv' zs' := by
  obtain ⟨hv', h1, h2, h3⟩ := hf
  refine ⟨hv', h1, ?_, h.map.kept (h2.block M h.map.lt fun hm => ?_), fun b hb => ?_, ((Turn.grown h.grown).trans h2 fun b hb => .inr (h.own b hb) |> fun x => x).noGrown (O := []) (by simp)⟩
  · rw [freeTo_succ]
    exact (hz.trans (h.nums.cons _)).trans (List.perm_append_comm (l₁ := [(j : Int) + 1]) (l₂ := freeTo [] j))
  · obtain ⟨es, clock, hmm⟩ := h.map.isMap
    unfold blkH at hm
    rcases List.mem_cons.1 hm with e2 | hm
    · have := h.free.head
      rw [← e2, hmm] at this
      cases this
    · have e3 : hv.ownBlock = some M := by simpa using hm
      rcases h.free.own.2 with ⟨e4, _⟩ | ⟨g', cap, cur, e4, _, hgg, _⟩
      · rw [e4] at e3; cases e3
      · rw [e4] at e3
        have e5 : g' = M := by simpa [Value.ownBlock] using e3
        rw [e5, hmm] at hgg
        cases hgg
  · unfold blkH at hb
    rcases List.mem_cons.1 hb with rfl | hb
    · exact h.own b (by simp [blkH])
    · have e3 : hv'.ownBlock = some b := by simpa using hb
      rcases h3 with e4 | ⟨b2, e4, hb2⟩
      · rw [e4] at e3
        exact h.own b (by simp [blkH, e3])
      · rw [e4] at e3
        have := Option.some.inj e3
        have := h.grown.size
        omega
end

set_option maxHeartbeats 2000000 in
theorem pa_new (n : Nat) (w : World) (hn : n ≤ 4096) : Calls Try.prog 9 #[.int .i64 n] w fun e w' => ∃ p O, e = .returned (.pointer (some ⟨p, 0, none⟩)) ∧ DN w' p n [] O ∧ w.grownBy w' none ∧ ∀ b, b ∈ O → w.heap.size ≤ b := by
  have d0 : decide ((n : Int) < 0) = false := decide_eq_false (by omega)
  have d1 : decide ((n : Int) > 4096) = false := decide_eq_false (by omega)
  have ga := World.grownBy_alloc w (.map #[] 0) none
  have hm1 : MapOf Try.prog 3 klI (w.alloc (.map #[] 0)) w.heap.size [] := MapOf.made _ _ _ _
  have e1 : (w.alloc (.map #[] 0)).heap.size = w.heap.size + 1 := by simp
  have gb := World.grownBy_alloc (w.alloc (.map #[] 0)) (.cells #[.map (some w.heap.size), .slice none 0 0] 61 (0, 0)) none
  have hp2 := heap_alloc_new (w.alloc (.map #[] 0)) (.cells #[.map (some w.heap.size), .slice none 0 0] 61 (0, 0))
  rw [e1] at hp2
  have hI : NewI w ((w.alloc (.map #[] 0)).alloc (.cells #[.map (some w.heap.size), .slice none 0 0] 61 (0, 0))) (w.heap.size + 1) w.heap.size 0 (.slice none 0 0) [] :=
    ⟨⟨hp2, OwnOf.nil _ _, HeapOk.nil⟩, List.Perm.refl _, hm1.kept (gb.block _ hm1.lt (by simp)), fun b hb => by simp [blkH, Value.ownBlock] at hb; omega, grown_trans ga gb⟩
  have HI := Lib.hid hI
  have hmk : (Instr.makeMap 58 none).run Try.prog w = .ok (.map (some w.heap.size)) (w.alloc (.map #[] 0)) := rfl
  clear ga hm1 gb hp2 hI
  go_enter Try.func9, Try.ntmps9
  go_wp2_with fail
  go_loopw [15] (fun iv wr => ∃ (j : Nat) (hv : Value) (zs : List Int), j ≤ n ∧ iv = .int .i64 j ∧ Hid (NewI w wr (w.heap.size + 1) w.heap.size j hv zs)) (fun iv _ => n - (intOf iv).toNat)
  case atStart => exact ⟨0, _, _, by omega, rfl, HI⟩
  case round =>
    clear HI
    obtain ⟨j, hv, zs, hj, rfl, HJ⟩ := hrel
    by_cases hlt : j < n
    · have HP := Lib.hid (heap_put HJ.out.free ((j : Int) + 1) (by rw [newI_len HJ.out]; omega))
      go_wp2_with fail
      refine HP.out.mono ?_
      rintro e w2 ⟨rfl, zs', hz, hf⟩
      obtain ⟨hv', hn'⟩ := HJ.out.next hz hf
      have HN := Lib.hid hn'
      clear hz hf hn'
      go_wp2_with fail
      go_roundw
      case rel => exact ⟨j + 1, hv', zs', by omega, by go_num, HN⟩
      case measure => simp [intOf]; omega
    · obtain rfl : j = n := by omega
      go_wp2_with fail
      go_ret
      have h := HJ.out
      refine ⟨w.heap.size + 1, blkP (w.heap.size + 1) w.heap.size hv [], rfl, ⟨w.heap.size, hv, zs, [], ⟨h.free, h.map, List.Perm.refl _, (fun n hn => by cases hn), List.nodup_nil, h.nums, GoodN.new hn⟩, rfl⟩, h.grown, fun b hb => ?_⟩
      rcases mem_blkP.1 hb with rfl | rfl | e | ⟨n, hn, _⟩
      · omega
      · omega
      · exact h.own b (by simp [blkH, e])
      · cases hn
theorem pa_new_no (n : Int) (w : World) (h : ¬ (0 ≤ n ∧ n ≤ 4096)) : Calls Try.prog 9 #[.int .i64 n] w fun e w' => e = .returned (.pointer none) ∧ w.grownBy w' none := by
  rcases (show n < 0 ∨ (¬ n < 0 ∧ n > 4096) by omega) with d0 | ⟨d0, d1⟩
  all_goals
    clear h
    go_enter Try.func9, Try.ntmps9
    go_wp2_with fail
    go_ret
    exact ⟨rfl, grown_refl _ _⟩
end Go.Proofs.Ytpiemnffbcgbmaa
