/- Layer 8's walks as their rows want them. -/
import Derived.Test.YthpjggghdaelbaaSSay
import Derived.Test.YthpjggghdaelbaaSNone
import Derived.Test.YthpjggghdaelbaaSRunsW
import Derived.Test.YthpjggghdaelbaaSWordsW
namespace Go.Proofs.Ythpjggghdaelbaa
open Go.ChangeShapes Go.WideShapes Go.ChangeAt Go.RowKit
theorem none_say8 (W : World) (n : Int) (hn : okI n) : Calls Try.prog 6 #[.int .i64 n] W fun e w' => e = .returned (.bool true) ∧ Below W.heap.size W w' := said (none_walk8 W n hn)
theorem runs_say8 (W : World) (s : Option Addr) (l c : Nat) (bs : List Int) (hB : UintsAre W s l bs) (n0 : Int) (hn : okU n0) : Calls Try.prog 5 #[.slice s l c, .int .u64 n0] W fun e w' => e = .returned (.bool true) ∧ Below W.heap.size W w' := said (runs_walk8 W s l c bs hB n0 hn)
theorem words_say8 (W : World) (n0 : Int) (s : Option Addr) (l c : Nat) (As : List SActV) (hA : SActsAre W s l As) (hn : okU n0) : Calls Try.prog 7 #[.int .u64 n0, .slice s l c] W fun e w' => e = .returned (.bool true) ∧ Below W.heap.size W w' := said (words_walk8 W n0 s l c As hA hn)
end Go.Proofs.Ythpjggghdaelbaa
