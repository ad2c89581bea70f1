/- Package slots: rows of words; hasBit, setBit, clearBit. -/
import Derived.Test.YthpjggghdaelbaaRows
import Derived.Test.YthpjggghdaelbaaSWord
import Derived.Test.YthpjggghdaelbaaTRow
import Derived.WalkKit
import Derived.ProofKit
import Derived.OpenShut
import Derived.WalkLawsBesides
import Derived.WalkSpells
import Derived.BigQuiet
import Derived.WalkArith
import Derived.Deep.QuietTactic
import Derived.Deep.DeepMust
import Derived.Outline
import Derived.Below
import Derived.Laws.MakeOwn
import Derived.Deep.AppendLies
import Derived.Deep.RegionHeld3
namespace Go.Proofs.Ythpjggghdaelbaa
open Go.ChangeShapes Go.WideShapes Go.ChangeAt Go.RowKit Go.Deep
set_option linter.unusedVariables false

theorem grown_drew1 (w : World) : w.grownBy w.drew none := ⟨rfl, rfl, rfl, Nat.le_refl _, fun _ _ _ => rfl⟩
theorem grown_draws (w : World) (n : Nat) : w.grownBy (w.drewN n) none := ⟨rfl, rfl, rfl, Nat.le_refl _, fun _ _ _ => rfl⟩
theorem grown_set (W : World) (b o : Nat) (v : Value) : W.grownBy (W.setCell ⟨b, o, none⟩ v) (some b) := ⟨rfl, rfl, rfl, by simp, fun k _ hk => heap_setCell_other W _ k v (fun e => hk (by rw [e]))⟩
theorem grown_at {a b e : World} {x : Nat} (h : a.grownBy b none) (g : b.grownBy e (some x)) (hx : a.heap.size ≤ x) : a.grownBy e none :=
  ⟨g.os.trans h.os, g.tape.trans h.tape, g.output.trans h.output, Nat.le_trans h.size g.size, fun k hk _ => (g.block k (Nat.lt_of_lt_of_le hk h.size) (by intro e; have e2 := Option.some.inj e; omega)).trans (h.block k hk (by simp))⟩

theorem grown_then {a b : World} {r : Option Nat} (h : a.grownBy b r) : a.grownBy b.drew r := ⟨h.os, h.tape, h.output, h.size, fun k hk hr => h.block k hk hr⟩

def wv (u : Nat) : Value := .int .u64 (u : Int)
/-- Block g is a row of words. -/
def WRow (w : World) (g : Nat) (us : List Nat) : Prop := w.heap[g]? = some (.cells (us.map wv).toArray 43 (0, 0))
section
variable {w w' : World} {g m : Nat} {us : List Nat} {p : Nat → Bool}
theorem WRow.lt (h : WRow w g us) : g < w.heap.size := (Array.getElem?_eq_some_iff.1 h).1
theorem WRow.kept (h : WRow w g us) (hb : w'.heap[g]? = w.heap[g]?) : WRow w' g us := hb.trans h
theorem WRow.at (h : WRow w g us) {q u : Nat} (hq : us[q]? = some u) : w.cell? ⟨g, q, none⟩ = some (.int .u64 (u : Int)) ∧ w.frozen? ⟨g, q, none⟩ = false := by
  refine ⟨?_, frozen_of_row _ _ _ _ _ h⟩
  rw [cell_of_row _ _ _ _ _ _ h]
  simp [hq, wv]
theorem WRow.set (h : WRow w g us) (q v : Nat) : WRow (w.setCell ⟨g, q, none⟩ (.int .u64 (v : Int))) g (us.set q v) := by
  have h1 := heap_setCell_same w g q _ _ (.int .u64 (v : Int)) h
  unfold WRow
  rw [h1]
  simp [wv, List.map_set]

theorem hasBit_ok (h : WRow w g us) (hp : WordsAre p m us) (hm : m ≤ 4) (i : Nat) (hi : i < 64 * m) :
    Calls Try.prog 30 #[.slice (some ⟨g, 0, none⟩) m m, .int .i64 (i : Int)] w fun e w' => e = .returned (.bool (p i)) ∧ w' = w := by
  obtain ⟨u, hu, hlt, hbit⟩ := hp.get hi
  obtain ⟨c0, -⟩ := h.at hu
  have h1 := and63 i (by omega)
  have h2 := test_word u (i % 64) hlt
  rw [← hbit]
  obtain ⟨q, hq⟩ : ∃ q, i / 64 = q := ⟨_, rfl⟩
  obtain ⟨k, hk⟩ : ∃ k, i % 64 = k := ⟨_, rfl⟩
  have hk64 : k < 64 := by omega
  have hqm : q < m := by omega
  rw [hq] at c0
  rw [hk] at h1 h2 ⊢
  have h3 : (i : Int) / 64 = (q : Int) := by omega
  clear hp h hbit hu hq hk hi
  go_enter Try.func30, Try.ntmps30
  go_wp2_with fail
  go_ret
  exact ⟨rfl, rfl⟩
theorem setBit_ok (h : WRow w g us) (hp : WordsAre p m us) (hm : m ≤ 4) (i : Nat) (hi : i < 64 * m) :
    Calls Try.prog 27 #[.slice (some ⟨g, 0, none⟩) m m, .int .i64 (i : Int)] w fun e w' => e = .returned (.tuple #[]) ∧ ∃ us', WRow w' g us' ∧ WordsAre (fun j => decide (j = i) || p j) m us' ∧ w.grownBy w' (some g) := by
  obtain ⟨u, hu, hlt, hbit⟩ := hp.get hi
  obtain ⟨c0, f0⟩ := h.at hu
  have h1 := and63 i (by omega)
  have h2 := or_word u (i % 64) hlt (by omega)
  have HP := Lib.hid (hp.set hi hu)
  have HR := Lib.hid (h.set (i / 64) (u ||| 2 ^ (i % 64)))
  obtain ⟨q, hq⟩ : ∃ q, i / 64 = q := ⟨_, rfl⟩
  obtain ⟨k, hk⟩ : ∃ k, i % 64 = k := ⟨_, rfl⟩
  have hk64 : k < 64 := by omega
  have hqm : q < m := by omega
  rw [hq] at c0 f0
  rw [hk] at h1 h2
  rw [hk, hq] at HP HR
  have h3 : (i : Int) / 64 = (q : Int) := by omega
  have HG := Lib.hid (grown_set w g q (.int .u64 ((u ||| 2 ^ k : Nat) : Int)))
  clear hp h hbit hu hq hk hi
  go_enter Try.func27, Try.ntmps27
  go_wp2_with fail
  go_region
  go_end0
  exact ⟨rfl, _, HR.out.kept rfl, HP.out, grown_then HG.out⟩
theorem clearBit_ok (h : WRow w g us) (hp : WordsAre p m us) (hm : m ≤ 4) (i : Nat) (hi : i < 64 * m) :
    Calls Try.prog 29 #[.slice (some ⟨g, 0, none⟩) m m, .int .i64 (i : Int)] w fun e w' => e = .returned (.tuple #[]) ∧ ∃ us', WRow w' g us' ∧ WordsAre (fun j => !decide (j = i) && p j) m us' ∧ w.grownBy w' (some g) := by
  obtain ⟨u, hu, hlt, hbit⟩ := hp.get hi
  obtain ⟨c0, f0⟩ := h.at hu
  have h1 := and63 i (by omega)
  have h2 := not_word u (i % 64) hlt (by omega)
  have HP := Lib.hid (hp.clr hi hu)
  have HR := Lib.hid (h.set (i / 64) (u &&& (18446744073709551615 - 2 ^ (i % 64))))
  obtain ⟨q, hq⟩ : ∃ q, i / 64 = q := ⟨_, rfl⟩
  obtain ⟨k, hk⟩ : ∃ k, i % 64 = k := ⟨_, rfl⟩
  have hk64 : k < 64 := by omega
  have hqm : q < m := by omega
  rw [hq] at c0 f0
  rw [hk] at h1 h2
  rw [hk, hq] at HP HR
  have h3 : (i : Int) / 64 = (q : Int) := by omega
  have HG := Lib.hid (grown_set w g q (.int .u64 ((u &&& (18446744073709551615 - 2 ^ k) : Nat) : Int)))
  clear hp h hbit hu hq hk hi
  go_enter Try.func29, Try.ntmps29
  go_wp2_with fail
  go_region
  go_end0
  exact ⟨rfl, _, HR.out.kept rfl, HP.out, grown_then HG.out⟩
end
end Go.Proofs.Ythpjggghdaelbaa
