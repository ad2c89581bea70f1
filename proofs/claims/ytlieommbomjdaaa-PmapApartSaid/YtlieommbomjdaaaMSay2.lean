/- PmapApart's walk as its row wants it. -/
import Derived.Test.YtlieommbomjdaaaMB5
import Derived.Test.YtlieommbomjdaaaMSay
namespace Go.Proofs.Ytlieommbomjdaaa
open Go.ChangeShapes Go.WideShapes Go.ChangeAt Go.RowKit
set_option linter.unusedVariables false

theorem apart_say (W : World) (v0 u0 : Int) (s : Option Addr) (l cc : Nat) (As : List A7) (hA : A7sAre W s l As) (hv : okU v0) (hu : okU u0) :
    Calls Try.prog 8 #[.int .u64 v0, .int .u64 u0, .slice s l cc] W fun e W' => e = .returned (.bool true) ∧ Below W.heap.size W W' :=
  (apart_walk W v0 u0 s l cc As hA hv hu).mono fun e w' h => ⟨h.1, below_ofM h.2⟩
end Go.Proofs.Ytlieommbomjdaaa
