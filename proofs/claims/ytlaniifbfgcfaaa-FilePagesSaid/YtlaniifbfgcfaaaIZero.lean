/- Files that no call made, as the landed type lays them (these: a stand-in's; the landed text replaces it). -/
import Derived.Test.YtlaniifbfgcfaaaINone
namespace Go.Proofs.Ytlaniifbfgcfaaa
def fileZero : Obj := .cells #[.slice none 0 0, .map none, .int .i64 0] 64 (0, 0)
end Go.Proofs.Ytlaniifbfgcfaaa
