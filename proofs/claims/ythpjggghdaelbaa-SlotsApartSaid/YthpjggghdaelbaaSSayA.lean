/- SlotsApart's walk as its row wants it. -/
import Derived.Test.YthpjggghdaelbaaSSay
import Derived.Test.YthpjggghdaelbaaSApartW
namespace Go.Proofs.Ythpjggghdaelbaa
open Go.ChangeShapes Go.WideShapes Go.ChangeAt Go.RowKit
theorem apart_say8 (W : World) (n0 : Int) (s : Option Addr) (l c : Nat) (As : List SActV) (hA : SActsAre W s l As) (hn : okU n0) : Calls Try.prog 4 #[.int .u64 n0, .slice s l c] W fun e w' => e = .returned (.bool true) ∧ Below W.heap.size W w' := said (apart_walk8 W n0 s l c As hA hn)
end Go.Proofs.Ythpjggghdaelbaa
