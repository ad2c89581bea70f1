/- A law of layer 15 as its row wants it. -/
import Derived.Test.YtklmlimfhgonjaaEySayA
import Derived.Test.YtklmlimfhgonjaaEyLawD
namespace Go.Proofs.Ytklmlimfhgonjaa
open Go.ChangeShapes Go.WideShapes Go.ChangeAt Go.RowKit
set_option linter.unusedVariables false

theorem inserts_say (W : World) (s : Option Addr) (l c : Nat) (L : List En) (h : EntsC W s l c L) (z : En) (hz : OkE z) : Calls Try.prog 10 #[.slice s l c, .agg #[.int .i64 z.s, .int .i64 z.e, .int .i64 z.f, .int .i64 z.o, .bool z.sh, .int .i64 z.p, .int .i64 z.m, .int .i64 z.i, .int .i64 z.a, .bool z.wi]] W fun e w' => e = .returned (.bool true) ∧ Below W.heap.size W w' := by
  obtain rfl := h.1
  exact said (inserts_law W (ents_ec h) h.2.2 z hz)
end Go.Proofs.Ytklmlimfhgonjaa
