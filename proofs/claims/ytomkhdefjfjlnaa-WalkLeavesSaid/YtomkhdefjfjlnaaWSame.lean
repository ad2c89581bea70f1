/- Layer 4's laws: same tells whether both memories have the very same bytes: it says yes of two that are alike. -/
import Derived.Test.YtomkhdefjfjlnaaWMade
namespace Go.Proofs.Ytomkhdefjfjlnaa
open Go.ChangeShapes Go.WideShapes Go.ChangeAt Go.RowKit Go.Deep
open Extern.Stop (cell)
set_option linter.unusedVariables false

theorem src_block {w : World} {g : Nat} {bs : List UInt8} {t : TypeId} (h : w.heap[g]? = some (.cells (bs.map cell).toArray t (0, 0))) : Src w (some ⟨g, 0, none⟩) bs.length bs := by
  refine ⟨rfl, .inr ⟨g, 0, rfl, fun j v hv => ?_⟩⟩
  rw [cell_of_row _ _ _ _ _ _ h]
  simpa using hv

theorem src_len {w : World} {s : Option Addr} {l k : Nat} {bs : List UInt8} (h : Src w s l bs) (e : l = k) : Src w s k bs := e ▸ h
theorem grown_cell {w w' : World} {a : Addr} {v : Value} (h : w.cell? a = some v) (g : w.grownBy w' none) : w'.cell? a = some v :=
  ((below_of_grown g (Nat.le_refl _) (by simp)).cell (World.block_lt_of_cell? w _ h)).trans h
theorem grown_two_cells {w w' : World} {a b : Addr} {x y : Value} (h : w.cell? a = some x ∧ w.cell? b = some y) (g : w.grownBy w' none) : w'.cell? a = some x ∧ w'.cell? b = some y := ⟨grown_cell h.1 g, grown_cell h.2 g⟩

set_option maxHeartbeats 2000000 in
theorem same_yes {w0 w : World} {m d r f n : Nat} {R : List Nat} {L : List UInt8} (h : Two w0 w m d r f n R L L) :
    Calls Try.prog 12 #[.pointer (some ⟨m, 0, none⟩), .pointer (some ⟨r, 0, none⟩)] w fun e w' => e = .returned (.bool true) ∧ w.grownBy w' none := by
  obtain ⟨cap, hc, hcap⟩ := h.rs.mem.cellR
  have hle := h.rs.mem.le
  have H := Lib.hid h
  clear h
  go_enter Try.func12, Try.ntmps12
  go_wp2_with fail
  go_loopw [11] (fun k wr => ∃ q : Nat, q ≤ n ∧ k = .int .i64 q ∧ Hid (w.grownBy wr none) ∧ Hid (Two w0 wr m d r f n R L L)) (fun k _ => n - (intOf k).toNat)
  case atStart => exact ⟨0, by omega, rfl, grown_refl _ _, H.out⟩
  case round =>
    obtain ⟨q, hq, rfl, HG, HT⟩ := hrel
    by_cases hlt : q < n
    · have HD := Lib.hid (HT.out.grow (grown_drew wr))
      have HGd := Lib.hid (grown_trans HG.out (grown_drew wr))
      obtain ⟨cap2, hc2, _⟩ := HD.out.rs.mem.cellR
      obtain ⟨p, hp, hpc, hrow⟩ := HD.out.rs.mem.row q hlt
      have hlen := pageOf_length HD.out.rs.mem.len q hlt
      have hk : wr.drew.cell? ⟨r, 0, none⟩ = some (.slice (some ⟨f, 0, none⟩) n cap2) ∧ wr.drew.cell? ⟨f, q, none⟩ = some (.slice (some ⟨p, 0, none⟩) 4096 4096) := ⟨hc2, hpc⟩
      have HRow := Lib.hid hrow
      have HLen := Lib.hid hlen
      clear hc2 hpc hp hrow hlen
      go_wp2_with fail
      go_region_held3 (fun w' => w'.cell? ⟨r, 0, none⟩ = some (.slice (some ⟨f, 0, none⟩) n cap2) ∧ w'.cell? ⟨f, q, none⟩ = some (.slice (some ⟨p, 0, none⟩) 4096 4096)) (exact hk)
        (first
          | (go_at_call 21; with_reducible refine ((pageE HD.out.st _ q rfl hlt).mono ?_); rintro e w5 ⟨rfl, h5, g5, hp5⟩; replace hk := grown_two_cells hk g5; have HT5 := Lib.hid (HD.out.grow g5); have HG5 := Lib.hid (grown_trans HGd.out g5); have HP5 := Lib.hid hp5; have HR5 := Lib.hid (blk_kept HRow.out g5 (by simp)); clear h5 g5 hp5)
          | (go_at_call 25; refine ((bytesEq (src_len (src_block HP5.out) HLen.out) (src_len (src_block HR5.out) HLen.out) _ _ true (by simp)).mono ?_); rintro e w6 ⟨rfl, rfl⟩))
      all_goals
        go_wp2_with fail
        go_roundw
        case rel => exact ⟨q + 1, by omega, by go_num, HG5.out, HT5.out⟩
        case measure => simp [intOf]; omega
    · obtain rfl : q = n := by omega
      go_wp2_with fail
      go_ret
      exact ⟨rfl, HG.out⟩
end Go.Proofs.Ytomkhdefjfjlnaa
