/- ObjectPages as its row wants it. -/
import Derived.Test.YtefcefclncbimaaZUints
import Derived.Test.YtefcefclncbimaaObOk
import Derived.Test.YtefcefclncbimaaObPgW
namespace Go.Proofs.Ytefcefclncbimaa
open Go.ChangeShapes Go.WideShapes Go.ChangeAt Go.RowKit
set_option linter.unusedVariables false

theorem okI_wf {x : Int} (h : (Lit.int .i64 x).wf = true) : okI x := wf_ok64 h
theorem okU_wf {x : Int} (h : (Lit.int .u64 x).wf = true) : okU x := by
  simp [Lit.wf, IntKind.min, IntKind.max, IntKind.signed, IntKind.bits] at h
  exact ⟨by omega, by omega⟩
theorem below_of {w w' : World} (g : w.grownBy w' none) : Below w.heap.size w w' := ⟨g.os, g.tape, g.output, g.size, fun k hk => g.block k hk (by simp)⟩
theorem said {f : FuncId} {args : Array Value} {w : World} (h : Calls Try.prog f args w fun e w' => e = .returned (.bool true) ∧ w.grownBy w' none) : Calls Try.prog f args w fun e w' => e = .returned (.bool true) ∧ Below w.heap.size w w' := h.mono fun _ _ k => ⟨k.1, below_of k.2⟩
theorem slice_cap {H : Type} {enc : TypeId × Value → H} {P : Program} {w : World} {base : Nat} {spare : Nat → Bool} {held : Bool} {t e : TypeId} {fuel : Nat} {s : Option Addr} {l c : Nat} {x : DataW H × List MemPlace} (ht : P.underlying t = some (.slice e))
    (h : DataW.trod enc P w base spare held fuel t [.slice s l c] = some x) : l ≤ c := by
  rcases DataW.trod_slice ht h with ⟨hcs, _⟩ | ⟨a, len, cap, elems, rest, m, _, hcs, _, _, hlc, _⟩
  · simp at hcs
    omega
  · simp at hcs
    omega
theorem pages_say14 (W : World) (s : Option Addr) (l c : Nat) (ds : List Int) (hU : UintsAre W s l ds) (lo hi : Int) (hlc : l ≤ c) (hlo : okI lo) (hhi : okI hi) : Calls Try.prog 5 #[.slice s l c, .int .i64 lo, .int .i64 hi] W fun e w' => e = .returned (.bool true) ∧ Below W.heap.size W w' := said (pages_walk14 obOk W s l c ds lo hi hlo hhi hU hlc)
end Go.Proofs.Ytefcefclncbimaa
