/- light: are there not more acts, with longer bytes, than are looked at? It changes nothing that was there. -/
import Derived.Test.YtdkfgniajlbifaaActE
namespace Go.Proofs.Ytdkfgniajlbifaa
open Go.ChangeShapes Go.WideShapes Go.ChangeAt Go.RowKit Go.Deep
open Extern.Stop (cell)
set_option linter.unusedVariables false

/-- Five cells in memory are an act. -/
structure ActAt (w : World) (g p : Nat) (A : ActV) : Prop where
  c0 : w.cell? ⟨g, p, none⟩ = some (.int .i64 A.k)
  c1 : w.cell? ⟨g, p + 1, none⟩ = some (.int .i64 A.a)
  c2 : w.cell? ⟨g, p + 2, none⟩ = some (.int .i64 A.b)
  c3 : w.cell? ⟨g, p + 3, none⟩ = some (.int .u64 A.v)
  c4 : w.cell? ⟨g, p + 4, none⟩ = some (.slice A.s A.l A.c)
  src : Src w A.s A.l A.bs
  v : A.v < 18446744073709551616

/-- A slice of acts. -/
structure ActsAre (w : World) (s : Option Addr) (l : Nat) (As : List ActV) : Prop where
  len : As.length = l
  cells : l = 0 ∨ ∃ g o, s = some ⟨g, o, none⟩ ∧ ∀ i A, As[i]? = some A → ActAt w g (o + i * 5) A

theorem ActAt.below {w w' : World} {g p : Nat} {A : ActV} (h : ActAt w g p A) (b : Below w.heap.size w w') : ActAt w' g p A := by
  have hg : g < w.heap.size := World.block_lt_of_cell? w ⟨g, p, none⟩ h.c0
  have e : ∀ q, w'.cell? ⟨g, q, none⟩ = w.cell? ⟨g, q, none⟩ := fun q => b.cell (p := ⟨g, q, none⟩) hg
  exact ⟨(e _).trans h.c0, (e _).trans h.c1, (e _).trans h.c2, (e _).trans h.c3, (e _).trans h.c4, h.src.below b, h.v⟩

theorem ActsAre.below {w w' : World} {s : Option Addr} {l : Nat} {As : List ActV} (h : ActsAre w s l As) (b : Below w.heap.size w w') : ActsAre w' s l As := by
  refine ⟨h.len, ?_⟩
  rcases h.cells with h0 | ⟨g, o, hs, hc⟩
  · exact .inl h0
  · exact .inr ⟨g, o, hs, fun i A hi => (hc i A hi).below b⟩

/-- Not more, and not longer, than are looked at. -/
def Light (As : List ActV) : Prop := As.length ≤ 60 ∧ (∀ A ∈ As, A.l ≤ 5000) ∧ (As.map ActV.l).sum ≤ 30000

theorem sum_take_succ (As : List ActV) (q : Nat) (A : ActV) (h : As[q]? = some A) : ((As.take (q + 1)).map ActV.l).sum = ((As.take q).map ActV.l).sum + A.l := by
  rw [List.take_add_one, h]
  simp

theorem light_any (w : World) (s : Option Addr) (l c : Nat) (As : List ActV) (h : ActsAre w s l As) (b : Bool) (hb : b = true ↔ Light As) :
    Calls Try.prog 10 #[.slice s l c] w fun e w' => e = .returned (.bool b) ∧ Below w.heap.size w w' := by
  have H := Lib.hid h
  have HB := Lib.hid hb
  by_cases hbig : 60 < l
  · have hf : b = false := by
      cases b with
      | false => rfl
      | true => have := (hb.1 rfl).1; have := h.len; omega
    subst hf
    clear h hb
    go_enter Try.func10, Try.ntmps10
    go_wp2
    go_ret
    exact ⟨rfl, Below.refl _ _⟩
  · have hl60 : l ≤ 60 := by omega
    clear h hb hbig
    go_enter Try.func10, Try.ntmps10
    go_wp2_with fail
    go_loopw [3, 11] (fun n k wr => ∃ q S : Nat, q ≤ l ∧ k = .int .i64 q ∧ n = .int .i64 S ∧ Hid (S = ((As.take q).map ActV.l).sum) ∧ S ≤ 5000 * q ∧ Hid (∀ A ∈ As.take q, A.l ≤ 5000) ∧ Below w.heap.size w wr) (fun _ k _ => l - (intOf k).toNat)
    case atStart => exact ⟨0, 0, by omega, rfl, rfl, rfl, by omega, by intro A hA; simp at hA, Below.refl _ _⟩
    case round =>
      obtain ⟨q, S, hq, rfl, rfl, HS, hS, HA, hbel⟩ := hrel
      have HW := Lib.hid hbel
      by_cases hlt : q < l
      · obtain ⟨A, hA⟩ : ∃ A, As[q]? = some A := ⟨_, List.getElem?_eq_getElem (by rw [H.out.len]; exact hlt)⟩
        rcases H.out.cells with h0 | ⟨g, o, rfl, hc⟩
        · omega
        have hat := (hc q A hA).below hbel
        obtain ⟨c0, c1, c2, c3, c4, _, _⟩ := hat
        have HAq := Lib.hid hA
        have hmem : A ∈ As := List.mem_of_getElem? hA
        have HMem := Lib.hid hmem
        clear hc hA hbel hmem
        generalize hL : A.l = L at *
        have HL := Lib.hid hL
        clear hL
        by_cases hbl : 5000 < L
        · have hd : decide ((L : Int) > 5000) = true := by simp; omega
          have hf : b = false := by
            cases b with
            | false => rfl
            | true => have := (HB.out.1 rfl).2.1 A HMem.out; rw [HL.out] at this; omega
          subst hf
          clear hbl
          go_wp2
          go_ret
          refine ⟨rfl, ?_⟩
          exact HW.out.alloc HW.out.size _
        · have hd : decide ((L : Int) > 5000) = false := by simp; omega
          have hL5 : L ≤ 5000 := by omega
          clear hbl
          go_wp2
          go_roundw
          case rel =>
            refine ⟨q + 1, S + L, by omega, by go_num, by go_num, ?_, by omega, ?_, ?_⟩
            · show _ = _
              rw [sum_take_succ As q A HAq.out, HL.out, ← HS.out]
            · intro B hB
              rw [List.take_add_one, HAq.out] at hB
              simp at hB
              rcases hB with hB | rfl
              · exact HA.out B hB
              · rw [HL.out]; exact hL5
            · exact HW.out.alloc HW.out.size _
          case measure => simp [intOf]; omega
      · have hql : As.take q = As := List.take_of_length_le (by rw [H.out.len]; omega)
        rw [hql] at HS HA
        have hbe : b = decide ((S : Int) ≤ 30000) := by
          rw [Bool.eq_iff_iff, HB.out]
          simp only [decide_eq_true_eq]
          constructor
          · intro hl; have h3 := hl.2.2; rw [← HS.out] at h3; omega
          · intro hs; exact ⟨by rw [H.out.len]; omega, HA.out, by rw [← HS.out]; omega⟩
        have HE := Lib.hid hbe
        clear hbel hql hbe
        go_wp2
        go_ret
        refine ⟨?_, HW.out⟩
        rw [HE.out]
        rfl

/-- The boxed act. -/
def Boxed (wr : World) (x : Nat) (A : ActV) : Prop := wr.heap[x]? = some (.cells #[.int .i64 A.k, .int .i64 A.a, .int .i64 A.b, .int .u64 A.v, .slice A.s A.l A.c] 33 (0, 0))

theorem Boxed.cells {wr : World} {x : Nat} {A : ActV} (h : Boxed wr x A) : wr.cell? ⟨x, 0, none⟩ = some (.int .i64 A.k) ∧ wr.cell? ⟨x, 1, none⟩ = some (.int .i64 A.a) ∧ wr.cell? ⟨x, 2, none⟩ = some (.int .i64 A.b) ∧ wr.cell? ⟨x, 3, none⟩ = some (.int .u64 A.v) ∧ wr.cell? ⟨x, 4, none⟩ = some (.slice A.s A.l A.c) := by
  unfold Boxed at h
  exact ⟨by rw [cell_of_row _ _ _ _ _ _ h]; rfl, by rw [cell_of_row _ _ _ _ _ _ h]; rfl, by rw [cell_of_row _ _ _ _ _ _ h]; rfl, by rw [cell_of_row _ _ _ _ _ _ h]; rfl, by rw [cell_of_row _ _ _ _ _ _ h]; rfl⟩

end Go.Proofs.Ytdkfgniajlbifaa
