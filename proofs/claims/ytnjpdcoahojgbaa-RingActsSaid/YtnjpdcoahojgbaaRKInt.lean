/- Items of kind int: what a walk asks of them; a pointer to no rows, or to rows that no call made. -/
import Derived.Test.YtnjpdcoahojgbaaRows
import Derived.Test.YtnjpdcoahojgbaaRWorld
import Derived.WalkKit
import Derived.ProofKit
import Derived.OpenShut
import Derived.WalkLawsBesides
import Derived.WalkSpells
import Derived.BigQuiet
import Derived.Deep.QuietTactic
import Derived.Deep.DeepMust
import Derived.Outline
import Derived.Below
import Derived.Lib.Hide
import Derived.Lib.SliceRun
import Derived.Defers
import Derived.Recover
import Derived.BigRegion
import Derived.Maps.OwnSet
namespace Go.Proofs.Ytnjpdcoahojgbaa.RInt
open Go.ChangeShapes Go.WideShapes Go.ChangeAt Go.RowKit
set_option linter.unusedVariables false

abbrev K := Int
def kv (x : K) : Value := Value.int .i64 x
def kl (x : K) : Lit := .int .i64 x
def okK (x : K) : Prop := (Lit.int .i64 x).wf = true

theorem zero_place (w : World) : (zeroValue 57).run Try.prog w = .ok (.pointer none) w := by kernel_rfl

theorem laws : KeyLaws Try.prog 3 49 57 kv kl okK where
  keyed := Maps.int_keyed Try.underlying3
  key x h := Maps.keyOf_int_mk Try.underlying3 h
  inj x y h := by simpa [kl] using h
  und := Try.underlying49
  zero := zero_place

/-- The rows in a world. -/
abbrev At (w : World) (F : Gm) (b L M cap : Nat) (S : List (List (K × Nat))) : Prop := Ring Try.prog 3 kv kl okK w F b L M cap S

/-- A pointer to no rows, or to rows that no call made. -/
def Bare (w : World) (p : Option Addr) : Prop := ∀ a, p = some a → ∃ b, a = ⟨b, 0, none⟩ ∧ w.cell? ⟨b, 0, none⟩ = some (.slice none 0 0) ∧ w.cell? ⟨b, 1, none⟩ = some (.map none)

theorem look_bare (x : K) (hx : okK x) (w : World) : (Instr.lookup 49 (.map none) (Value.int .i64 x) false).run Try.prog w = .ok (.pointer none) w := by
  have := Maps.look_nil (w := w) false laws.keyed laws.und (zero_place w) (laws.key x hx)
  simpa [kv] using this

/-- find's deferred closure, where nothing panicked. -/
theorem idle (p q : Addr) (w : World) :
    CallsD Try.prog 53 #[.pointer (some p), .pointer (some q)] .returning w fun e u' w' => e = .returned (.tuple #[]) ∧ u' = .returning ∧ w' = w := by
  refine callsD_of_wpS Try.func53 rfl fun c₀ cs hu => ?_
  apply wpS_seq
  apply wpS_region
  simp [wpOpsS, go_sem, recoverD, hu, Try.ntmps53, Exit.thenS]
  refine wpS_cond (t := false) (by simp [Act.eval, Array.replicate]) ?_
  simp only [Bool.false_eq_true, if_false]
  refine wpS_of_wp (wp_skip ?_)
  cases c₀
  simp_all [bodyPostS, results, Try.results53]

/-- What find tells, and that nothing that was there has turned. -/
def Finds (w : World) (p : Option Addr) (x : K) (r : Option Addr) (ok : Bool) : Prop :=
  Calls Try.prog 44 #[.pointer p, Value.int .i64 x] w fun e w' => e = .returned (.tuple #[.pointer r, .bool ok]) ∧ Below w.heap.size w w'

theorem find_nil (w : World) (x : K) : Finds w none x none false := by
  unfold Finds
  have hmf : ∀ (fn : Fn) (first cap : Array Value) (w : World), (Instr.makeFunc fn first cap).run Try.prog w = .ok (.func fn first cap) w := fun _ _ _ _ => rfl
  go_enter_defers Try.func44, Try.ntmps44
  go_wp2
  refine leaves_cons (f := 53) (args := #[.pointer (some ⟨w.heap.size, 0, none⟩), .pointer (some ⟨w.heap.size + 1, 0, none⟩)]) (by simp) (by simp [go_sem]) ?_
  refine (idle ⟨w.heap.size, 0, none⟩ ⟨w.heap.size + 1, 0, none⟩ _).mono ?_
  rintro e u' w'' ⟨rfl, rfl, rfl⟩
  simp [Leaves, settle, results, Try.results44, go_sem]
  exact ((Below.refl _ _).alloc (Nat.le_refl _) _).alloc (by simp) _

/-- Through a pointer, whatever the map there tells. -/
theorem find_at (w : World) (b : Nat) (m : Option Nat) (x : K) (r : Option Addr) (hm : w.cell? ⟨b, 1, none⟩ = some (.map m))
    (hl : (Instr.lookup 49 (.map m) (Value.int .i64 x) false).run Try.prog ((w.alloc (.cells #[.pointer none] 57)).alloc (.cells #[.bool false] 4)) = .ok (.pointer r) ((w.alloc (.cells #[.pointer none] 57)).alloc (.cells #[.bool false] 4))) :
    Finds w (some ⟨b, 0, none⟩) x r true := by
  unfold Finds
  have hb : b < w.heap.size := World.block_lt_of_cell? w _ hm
  have hmf : ∀ (fn : Fn) (first cap : Array Value) (w : World), (Instr.makeFunc fn first cap).run Try.prog w = .ok (.func fn first cap) w := fun _ _ _ _ => rfl
  go_enter_defers Try.func44, Try.ntmps44
  go_wp2
  refine leaves_cons (f := 53) (args := #[.pointer (some ⟨w.heap.size, 0, none⟩), .pointer (some ⟨w.heap.size + 1, 0, none⟩)]) (by simp) (by simp [go_sem]) ?_
  refine (idle ⟨w.heap.size, 0, none⟩ ⟨w.heap.size + 1, 0, none⟩ _).mono ?_
  rintro e u' w'' ⟨rfl, rfl, rfl⟩
  simp [Leaves, settle, results, Try.results44, go_sem]
  exact ((Below.refl _ _).alloc (Nat.le_refl _) _).alloc (by simp) _

theorem find_bare (w : World) (a : Addr) (h : Bare w (some a)) (x : K) (hx : okK x) : Finds w (some a) x none true := by
  obtain ⟨b, rfl, _, h1⟩ := h a rfl
  exact find_at w b none x none h1 (look_bare x hx _)

section
variable {w : World} {F : Gm} {b L M cap : Nat} {S : List (List (K × Nat))}

theorem wide_map (h : At w F b L M cap S) (o1 o2 : Obj) : MapOf Try.prog 3 kl ((w.alloc o1).alloc o2) M S.flatten := by
  have hM := h.map.lt
  refine h.map.kept ?_
  rw [Below.heap_alloc _ _ _ (by simp; omega), Below.heap_alloc _ _ _ hM]

theorem find_yes (h : At w F b L M cap S) {x : K} {a : Nat} (hm : (x, a) ∈ S.flatten) : Finds w (some ⟨b, 0, none⟩) x (some ⟨a, 0, none⟩) true := by
  refine find_at w _ (some M) x _ ?_ ?_
  · exact h.holds.cell b 1 _ h.ring.wh
  · have := (wide_map h (.cells #[.pointer none] 57) (.cells #[.bool false] 4)).look_yes laws h.keys hm (h.ok _ hm)
    simpa [kv, ptr] using this

theorem find_no (h : At w F b L M cap S) {x : K} (hx : okK x) (hm : x ∉ S.flatten.map (·.1)) : Finds w (some ⟨b, 0, none⟩) x none true := by
  refine find_at w _ (some M) x _ ?_ ?_
  · exact h.holds.cell b 1 _ h.ring.wh
  · have := (wide_map h (.cells #[.pointer none] 57) (.cells #[.bool false] 4)).look_no laws (x := x) (fun n hn e => hm (by rw [← e]; exact List.mem_map.2 ⟨n, hn, rfl⟩)) hx
    simpa [kv] using this
end
end Go.Proofs.Ytnjpdcoahojgbaa.RInt
