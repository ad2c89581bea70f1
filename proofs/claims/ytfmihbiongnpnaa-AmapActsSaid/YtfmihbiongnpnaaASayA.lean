/- AmapActs' walk as its row wants it. (Over ASay the claim would hold more than 60 files.) -/
import Derived.Test.YtfmihbiongnpnaaAAct
import Derived.Test.YtfmihbiongnpnaaAActsW
namespace Go.Proofs.Ytfmihbiongnpnaa
open Go.ChangeShapes Go.WideShapes Go.ChangeAt Go.RowKit
set_option linter.unusedVariables false

theorem okI_wf {x : Int} (h : (Lit.int .i64 x).wf = true) : okI x := wf_ok64 h
theorem below_of {w w' : World} (g : w.grownBy w' none) : Below w.heap.size w w' := ⟨g.os, g.tape, g.output, g.size, fun k hk => g.block k hk (by simp)⟩
theorem said {f : FuncId} {args : Array Value} {w : World} (h : Calls Try.prog f args w fun e w' => e = .returned (.bool true) ∧ w.grownBy w' none) : Calls Try.prog f args w fun e w' => e = .returned (.bool true) ∧ Below w.heap.size w w' := h.mono fun _ _ k => ⟨k.1, below_of k.2⟩
theorem acts_say13 (W : World) (n0 : Int) (s : Option Addr) (l c : Nat) (As : List AActV) (hA : AActsAre W s l As) (look : Int) (hn : okI n0) (hk : okI look) :
    Calls Try.prog 3 #[.int .i64 n0, .slice s l c, .int .i64 look] W fun e w' => e = .returned (.bool true) ∧ Below W.heap.size W w' := said (acts_done13 W n0 s l c As look hA hn hk)
end Go.Proofs.Ytfmihbiongnpnaa
