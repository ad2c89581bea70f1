/- A device that no call made, as the landed type lays it (this one: a stand-in's; the landed text replaces it). -/
import Derived.Test.YtnfofhnjeinmfaaVNone
namespace Go.Proofs.Ytnfofhnjeinmfaa
def devZero : Obj := .cells #[.int .i64 0, .map none, .int .i64 0, .int .i64 0, .int .i64 0, .int .i64 0] 60 (0, 0)
end Go.Proofs.Ytnfofhnjeinmfaa
