/- SlotsActs' walk as its row wants it. -/
import Derived.Test.YthpjggghdaelbaaSSay
import Derived.Test.YthpjggghdaelbaaSActsW
namespace Go.Proofs.Ythpjggghdaelbaa
open Go.ChangeShapes Go.WideShapes Go.ChangeAt Go.RowKit
theorem acts_say8 (W : World) (n : Int) (s : Option Addr) (l c : Nat) (As : List SActV) (hA : SActsAre W s l As) (hn : okI n) : Calls Try.prog 3 #[.int .i64 n, .slice s l c] W fun e w' => e = .returned (.bool true) ∧ Below W.heap.size W w' := said (acts_walk8 W n s l c As hA hn)
end Go.Proofs.Ythpjggghdaelbaa
