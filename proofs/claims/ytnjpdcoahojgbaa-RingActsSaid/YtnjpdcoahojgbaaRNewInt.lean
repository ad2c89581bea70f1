/- Package ring at items of kind int: New. -/
import Derived.Test.YtnjpdcoahojgbaaROpsInt
import Derived.Laws.MakeOwn
namespace Go.Proofs.Ytnjpdcoahojgbaa.RInt
open Go.ChangeShapes Go.WideShapes Go.ChangeAt Go.RowKit
set_option linter.unusedVariables false

/-- A row's cells, as they are made. -/
def zline : Array Value := #[Value.int .i64 (0 : Int), .int .i64 0, .pointer none, .pointer none, .int .i64 0]
theorem info_line : (Try.prog.info? 61).map (fun i => (i.zero, i.size, i.bytes)) = some (some (.agg #[Value.int .i64 (0 : Int), .int .i64 0, .pointer none, .pointer none, .int .i64 0]), 5, 40) := by kernel_rfl
def lineBytes : Nat := 40

theorem made_get (m r j : Nat) (hr : r < m) (hj : j < 5) : (madeCells zline (m * 5))[r * 5 + j]? = zline[j]? := by
  unfold madeCells
  have hs : zline.size = 5 := rfl
  rw [Array.getElem?_map, Array.getElem?_range, if_pos (by omega)]
  simp only [Option.map_some, hs]
  rw [show (r * 5 + j) % 5 = j by omega, getElem!_pos zline j (by rw [hs]; exact hj), Array.getElem?_eq_getElem]

/-- New's loop: the ends of the first k rows are laid. -/
structure Ends (F : Gm) (b L M m k : Nat) : Prop where
  lines : F b 0 = some (.slice (some ⟨L, 0, none⟩) m m)
  wh : F b 1 = some (.map (some M))
  items : F b 2 = some (.int .i64 0)
  cnt : ∀ r, r < m → F L (r * 5 + 4) = some (.int .i64 0)
  lk : ∀ r, r < k → Lk F (endOf L r) (endOf L r)
  some2 : ∀ r, r < m → ∃ v, F L (r * 5 + 2) = some v
  some3 : ∀ r, r < m → ∃ v, F L (r * 5 + 3) = some v

theorem Ends.step {F : Gm} {b L M m k : Nat} (h : Ends F b L M m k) (hk : k < m) (hb : b ≠ L) : Ends (upd (upd F L (k * 5 + 2) (ptr (endOf L k))) L (k * 5 + 3) (ptr (endOf L k))) b L M m (k + 1) := by
  have far : ∀ {y o : Nat} {v : Value}, F y o = some v → ¬ (y = L ∧ o = k * 5 + 2) → ¬ (y = L ∧ o = k * 5 + 3) → upd (upd F L (k * 5 + 2) (ptr (endOf L k))) L (k * 5 + 3) (ptr (endOf L k)) y o = some v := by
    intro y o v hv e1 e2
    rw [upd_other e2, upd_other e1]
    exact hv
  refine ⟨far h.lines (by omega) (by omega), far h.wh (by omega) (by omega), far h.items (by omega) (by omega), fun r hr => far (h.cnt r hr) (by omega) (by omega), fun r hr => ?_, fun r hr => ?_, fun r hr => ?_⟩
  · by_cases e : r = k
    · subst e
      refine ⟨?_, ?_⟩
      · show upd _ L (r * 5 + 3) _ L (r * 5 + 3) = _
        exact upd_same _ _ _ _
      · show upd (upd F L (r * 5 + 2) _) L (r * 5 + 3) _ L (r * 5 + 2) = _
        rw [upd_other (by omega)]
        exact upd_same _ _ _ _
    · have := h.lk r (by omega)
      exact ⟨far this.1 (by simp [endOf]; omega) (by simp [endOf]; omega), far this.2 (by simp [endOf]; omega) (by simp [endOf]; omega)⟩
  · by_cases e : r = k
    · subst e
      exact ⟨_, by rw [upd_other (by omega)]; exact upd_same _ _ _ _⟩
    · obtain ⟨v, hv⟩ := h.some2 r hr
      exact ⟨v, far hv (by omega) (by omega)⟩
  · by_cases e : r = k
    · subst e
      exact ⟨_, upd_same _ _ _ _⟩
    · obtain ⟨v, hv⟩ := h.some3 r hr
      exact ⟨v, far hv (by omega) (by omega)⟩

/-- What New's loop begins with. -/
def start (n0 m : Nat) : Gm := fun x y => if x = n0 + 2 then (#[.slice (some ⟨n0, 0, none⟩) m m, .map (some (n0 + 1)), .int .i64 0] : Array Value)[y]? else if x = n0 then (madeCells zline (m * 5))[y]? else none

theorem start_ends (n0 m : Nat) : Ends (start n0 m) (n0 + 2) n0 (n0 + 1) m 0 := by
  have hL : ∀ y, start n0 m n0 y = (madeCells zline (m * 5))[y]? := fun y => by
    unfold start
    rw [if_neg (by omega), if_pos rfl]
  refine ⟨by simp [start], by simp [start], by simp [start], fun r hr => ?_, fun r hr => absurd hr (by omega), fun r hr => ⟨.pointer none, ?_⟩, fun r hr => ⟨.pointer none, ?_⟩⟩
  · rw [hL, made_get m r 4 hr (by omega)]; rfl
  · rw [hL, made_get m r 2 hr (by omega)]; rfl
  · rw [hL, made_get m r 3 hr (by omega)]; rfl

theorem Ends.ring {F : Gm} {b L M m : Nat} (h : Ends F b L M m m) (hb : b ≠ L) : RingF kv F b L M m (List.replicate m []) := by
  have get : ∀ r ns, (List.replicate m ([] : List (K × Nat)))[r]? = some ns → r < m ∧ ns = [] := by
    intro r ns hr
    rw [List.getElem?_replicate] at hr
    split at hr
    · simp at hr; exact ⟨by assumption, hr⟩
    · simp at hr
  refine ⟨by rw [List.length_replicate]; exact h.lines, h.wh, ?_, fun r ns hr => ?_, fun r ns n hr hn => ?_, fun r ns hr => ?_, ?_⟩
  · have : (List.replicate m ([] : List (K × Nat))).flatten = [] := by simp
    rw [this]
    exact h.items
  · obtain ⟨h1, rfl⟩ := get r ns hr
    exact h.cnt r h1
  · obtain ⟨h1, rfl⟩ := get r ns hr
    simp at hn
  · obtain ⟨h1, rfl⟩ := get r ns hr
    exact ⟨h.lk r h1, trivial⟩
  · simp [hb]

theorem new_no (n : Int) (w : World) (h : ¬ (1 ≤ n ∧ n ≤ 64)) :
    Calls Try.prog 10 #[.int .i64 n] w fun e w' => e = .returned (.pointer none) ∧ w = w' := by
  by_cases h0 : n < 1
  · go_enter Try.func10, Try.ntmps10
    go_wp2
    go_ret
    exact ⟨rfl, rfl⟩
  · have hd : decide (n < 1) = false := by simpa using h0
    have hd2 : 64 < n := by omega
    clear h
    go_enter Try.func10, Try.ntmps10
    go_wp2
    go_ret
    exact ⟨rfl, rfl⟩

/-- What New makes. -/
def Made (w : World) (m : Nat) (e : Ending) (w' : World) : Prop :=
  ∃ b O, e = .returned (.pointer (some ⟨b, 0, none⟩)) ∧ Is w' b (List.replicate m []) O ∧ Below w.heap.size w w' ∧ ∀ g, g ∈ O → w.heap.size ≤ g

theorem new_ok (m : Nat) (w : World) (h1 : 1 ≤ m) (h2 : m ≤ 64) : Calls Try.prog 10 #[.int .i64 m] w (Made w m) := by
  have hmk : (Instr.makeSlice 48 (.int .i64 (m : Int)) (.int .i64 (m : Int))).run Try.prog w = .ok (.slice (some ⟨w.heap.size, 0, none⟩) m m) (w.alloc (.cells (madeCells zline (m * 5)) 61)) := by
    obtain ⟨i0, hi, hz0, hz1, hz2⟩ := info_parts info_line
    have hr := run_make (P := Try.prog) w 48 61 i0 _ Try.underlying48 hi hz0 .i64 .i64 (m : Int) (m : Int) (by omega) (by omega) (by rw [hz2]; omega) (by omega)
    rw [hr, Int.toNat_natCast, hz1]
    rfl
  have hmm := @run_makeMap Try.prog
  obtain ⟨X, hX⟩ : ∃ X, X = madeCells zline (m * 5) := ⟨_, rfl⟩
  have HX := Lib.hid hX
  rw [← hX] at hmk
  clear hX
  have hd : decide ((m : Int) < 1) = false := by simp; omega
  have hd2 : decide ((m : Int) > 64) = false := by simp; omega
  go_enter Try.func10, Try.ntmps10
  go_wp2_with fail
  have hw0 : Holds (((w.alloc (.cells X 61)).alloc (.map #[] 0)).alloc (.cells #[.slice (some ⟨w.heap.size, 0, none⟩) m m, .map (some (w.heap.size + 1)), .int .i64 0] 51)) (start w.heap.size m) := by
    have h0 : Holds w (fun _ _ => none) := ⟨fun _ _ _ h => by simp at h, fun _ _ _ h => by simp at h⟩
    refine (((h0.alloc_new X 61).alloc (.map #[] 0)).alloc_new _ _).weaken fun x y v hv => ?_
    have e : ((w.alloc (.cells X 61)).alloc (.map #[] 0)).heap.size = w.heap.size + 2 := by simp
    rw [e]
    unfold start at hv
    unfold news
    by_cases hx : x = w.heap.size + 2
    · rw [if_pos hx] at hv ⊢
      exact hv
    · rw [if_neg hx] at hv ⊢
      by_cases hx2 : x = w.heap.size
      · rw [if_pos hx2] at hv ⊢
        rw [HX.out]
        exact hv
      · rw [if_neg hx2] at hv
        cases hv
  have hm0 : MapOf Try.prog 3 kl (((w.alloc (.cells X 61)).alloc (.map #[] 0)).alloc (.cells #[.slice (some ⟨w.heap.size, 0, none⟩) m m, .map (some (w.heap.size + 1)), .int .i64 0] 51)) (w.heap.size + 1) [] := by
    have := MapOf.made Try.prog 3 kl (w.alloc (.cells X 61))
    rw [World.size_alloc] at this
    exact this.kept (Below.heap_alloc _ _ _ (by simp))
  have hb0 : Below w.heap.size w (((w.alloc (.cells X 61)).alloc (.map #[] 0)).alloc (.cells #[.slice (some ⟨w.heap.size, 0, none⟩) m m, .map (some (w.heap.size + 1)), .int .i64 0] 51)) :=
    (((Below.refl _ _).alloc (Nat.le_refl _) _).alloc (by simp) _).alloc (by simp; omega) _
  have hs0 := start_ends w.heap.size m
  have HW0 := Lib.hid hw0
  have HM0 := Lib.hid hm0
  have HB0 := Lib.hid hb0
  have HS0 := Lib.hid hs0
  clear hw0 hm0 hb0 hs0 hmk hmm
  generalize ((w.alloc (.cells X 61)).alloc (.map #[] 0)).alloc (.cells #[.slice (some ⟨w.heap.size, 0, none⟩) m m, .map (some (w.heap.size + 1)), .int .i64 0] 51) = w0 at *
  clear HX
  generalize hn0 : w.heap.size = n0 at *
  have HN := Lib.hid hn0
  clear hn0
  go_loopw [22] (fun i wr => ∃ (k : Nat) (G : Gm), k ≤ m ∧ i = .int .i64 k ∧ Hid (Holds wr G) ∧ Hid (Ends G (n0 + 2) n0 (n0 + 1) m k) ∧ Hid (MapOf Try.prog 3 kl wr (n0 + 1) []) ∧ Hid (Below n0 w wr)) (fun i _ => m - (intOf i).toNat)
  case atStart => exact ⟨0, _, by omega, rfl, HW0, HS0, HM0, HB0⟩
  case round =>
    obtain ⟨k, G, hk, rfl, HH, HE, HM, HB⟩ := hrel
    by_cases hlt : k < m
    · have c0 := HH.out.cell _ _ _ HE.out.lines
      obtain ⟨v2, hv2⟩ := HE.out.some2 k hlt
      obtain ⟨v3, hv3⟩ := HE.out.some3 k hlt
      have c2 := HH.out.cell _ _ _ hv2
      have f2 := HH.out.free _ _ _ hv2
      have u1 := HH.out.set hv2 (.pointer (some ⟨n0, k * 5, none⟩))
      have hv3' : upd G n0 (k * 5 + 2) (.pointer (some ⟨n0, k * 5, none⟩)) n0 (k * 5 + 3) = some v3 := (upd_other (by omega)).trans hv3
      have c3 := u1.cell _ _ _ hv3'
      have f3 := HH.out.free _ _ _ hv3
      have u2 := u1.set hv3' (.pointer (some ⟨n0, k * 5, none⟩))
      have HU := Lib.hid u2
      clear u1 u2 hv2 hv3 hv3'
      go_wp2
      go_roundw
      case rel =>
        refine ⟨k + 1, _, by omega, by go_num, HU, ?_, ?_, ?_⟩
        · have := HE.out.step hlt (by omega)
          exact this
        · refine HM.out.kept ?_
          rw [heap_setCell_other _ _ _ _ (by simp), heap_setCell_other _ _ _ _ (by simp)]
        · exact (HB.out.setCell (p := ⟨n0, k * 5 + 2, none⟩) (Nat.le_refl _) _).setCell (p := ⟨n0, k * 5 + 3, none⟩) (Nat.le_refl _) _
      case measure => simp [intOf]; omega
    · obtain rfl : m = k := by omega
      clear hk
      go_wp2
      go_ret
      have hR := HE.out.ring (by omega)
      have hfl : (List.replicate m ([] : List (K × Nat))).flatten = [] := by simp
      refine ⟨n0 + 1 + 1, _, rfl, ⟨G, n0, n0 + 1, m, List.replicate m [], ⟨HH.out, hR, by rw [hfl]; exact HM.out, by rw [hfl]; exact List.nodup_nil, fun n hn => by rw [hfl] at hn; simp at hn, by rw [hfl]; simp, by simp; omega, by simp⟩, by simp [strip], rfl⟩, ?_, ?_⟩
      · rw [HN.out]; exact HB.out
      · intro g hg
        rw [HN.out]
        unfold own at hg
        rw [hfl] at hg
        simp at hg
        omega
end Go.Proofs.Ytnjpdcoahojgbaa.RInt
