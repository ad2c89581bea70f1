/- Layer 12's walks as their rows want them: nothing older has turned. -/
import Derived.Test.YtpiemnffbcgbmaaNActsW
import Derived.Test.YtpiemnffbcgbmaaNNoneW
import Derived.Test.YtpiemnffbcgbmaaNPlacesW
import Derived.Test.YtpiemnffbcgbmaaNManyW
import Derived.Test.YtpiemnffbcgbmaaNLowestW
import Derived.Test.YtpiemnffbcgbmaaNCountsW
import Derived.Test.YtpiemnffbcgbmaaNDj
namespace Go.Proofs.Ytpiemnffbcgbmaa
open Go.ChangeShapes Go.WideShapes Go.ChangeAt Go.RowKit
set_option linter.unusedVariables false

theorem okI_wf {x : Int} (h : (Lit.int .i64 x).wf = true) : okI x := wf_ok64 h
theorem okU_wf {x : Int} (h : (Lit.int .u64 x).wf = true) : okU x := by
  simp [Lit.wf, IntKind.min, IntKind.max, IntKind.signed, IntKind.bits] at h
  exact ⟨by omega, by omega⟩
theorem below_of {w w' : World} (g : w.grownBy w' none) : Below w.heap.size w w' := ⟨g.os, g.tape, g.output, g.size, fun k hk => g.block k hk (by simp)⟩
theorem said {f : FuncId} {args : Array Value} {w : World} (h : Calls Try.prog f args w fun e w' => e = .returned (.bool true) ∧ w.grownBy w' none) : Calls Try.prog f args w fun e w' => e = .returned (.bool true) ∧ Below w.heap.size w w' := h.mono fun _ _ k => ⟨k.1, below_of k.2⟩
section
variable (W : World)
theorem acts_say12 (n0 : Int) (s : Option Addr) (l c : Nat) (As : List NActV) (hA : NActsAre W s l As) (hn : okI n0) : Calls Try.prog 3 #[.int .i64 n0, .slice s l c] W fun e w' => e = .returned (.bool true) ∧ Below W.heap.size W w' := said (acts_walk12 naOk W n0 s l c As hA hn)
theorem counts_say12 (n0 : Int) (s : Option Addr) (l c : Nat) (As : List NActV) (hA : NActsAre W s l As) (hn : okU n0) : Calls Try.prog 4 #[.int .u64 n0, .slice s l c] W fun e w' => e = .returned (.bool true) ∧ Below W.heap.size W w' := said (counts_walk12 naOk W n0 s l c As hA hn)
theorem lowest_say12 (s : Option Addr) (l c : Nat) (ds : List Int) (hU : UintsAre W s l ds) : Calls Try.prog 5 #[.slice s l c] W fun e w' => e = .returned (.bool true) ∧ Below W.heap.size W w' := said (lowest_walk12 naOk W s l c ds hU)
theorem none_say12 (A : NActV) (hO : A.Ok) : Calls Try.prog 6 #[.agg #[.int .i64 A.k, .int .i64 A.id, .int .i64 A.a, .int .i64 A.b]] W fun e w' => e = .returned (.bool true) ∧ Below W.heap.size W w' := said (none_done12 W A hO)
theorem places_say12 (f s r : Int) (hf : okI f) (hs : okI s) (hr : okU r) : Calls Try.prog 7 #[.int .i64 f, .int .i64 s, .int .u64 r] W fun e w' => e = .returned (.bool true) ∧ Below W.heap.size W w' := said (places_walk12 naOk W f s r hf hs hr)
theorem many_say12 (a b : Int) (ha : okU a) (hb : okU b) : Calls Try.prog 8 #[.int .u64 a, .int .u64 b] W fun e w' => e = .returned (.bool true) ∧ Below W.heap.size W w' := said (many_walk12 naOk W a b ha hb)
end
end Go.Proofs.Ytpiemnffbcgbmaa
