/- PmapTells' walk as its row wants it. -/
import Derived.Test.YtlieommbomjdaaaMB7
import Derived.Test.YtlieommbomjdaaaMSay
namespace Go.Proofs.Ytlieommbomjdaaa
open Go.ChangeShapes Go.WideShapes Go.ChangeAt Go.RowKit
set_option linter.unusedVariables false

theorem tells_say (W : World) (sv : Option Addr) (l cc : Nat) (vs : List Int) (hv : UintsAre W sv l vs) (sd : Option Addr) (ld cd : Nat) (ds : List Int) (hd : UintsAre W sd ld ds) (most : Int) :
    Calls Try.prog 3 #[.slice sv l cc, .slice sd ld cd, .int .i64 most] W fun e W' => e = .returned (.bool true) ∧ Below W.heap.size W W' :=
  (tells_walk W sv l cc vs hv sd ld cd ds hd most).mono fun e w' h => ⟨h.1, below_ofM h.2⟩
end Go.Proofs.Ytlieommbomjdaaa
