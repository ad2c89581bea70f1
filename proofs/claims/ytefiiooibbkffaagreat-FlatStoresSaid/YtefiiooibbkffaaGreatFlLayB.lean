/- Contracts of the library at this program, in plain declarations: made by the kit's program lay-plain out of its layings. -/
import Derived.Shelf.SlMaps.Clone
import Derived.Test.YtefiiooibbkffaaGreatProg
namespace Go.Proofs
open Go.Shelf
def Tryz.cloneF_ren : Go.Shelf.Ren := ⟨fun | 5 => 103 | 7 => 104 | n => n, fun | 23 => 53 | 25 => 153 | 3 => 95 | 4 => 4 | 20 => 20 | n => n, fun | n => n⟩
theorem Tryz.cloneF : Go.Proofs.SlLaysW.n5 Tryz.prog Tryz.cloneF_ren := {
  mixed := by kernel_rfl
  f5 := ⟨Tryz.f103.name, by decide, Tryz.func103.trans (congrArg some (by kernel_rfl))⟩
  f7 := Tryz.func104.trans (congrArg some (by kernel_rfl))
  t4 := Tryz.underlying4
  a4 := Tryz.isAgg4
  z4 := Tryz.sizeOf4
  v4 := Tryz.zeroValue4
  t20 := Tryz.underlying20
  a20 := Tryz.isAgg20
  z20 := Tryz.sizeOf20
  v20 := Tryz.zeroValue20
  t23 := Tryz.underlying53
  a23 := Tryz.isAgg53
  z23 := Tryz.sizeOf53
  v23 := Tryz.zeroValue53 }
def Tryz.cloneH_ren : Go.Shelf.Ren := ⟨fun | 5 => 53 | 7 => 104 | n => n, fun | 23 => 56 | 25 => 3 | 3 => 95 | 4 => 4 | 20 => 20 | n => n, fun | n => n⟩
theorem Tryz.cloneH : Go.Proofs.SlLaysW.n5 Tryz.prog Tryz.cloneH_ren := {
  mixed := by kernel_rfl
  f5 := ⟨Tryz.f53.name, by decide, Tryz.func53.trans (congrArg some (by kernel_rfl))⟩
  f7 := Tryz.func104.trans (congrArg some (by kernel_rfl))
  t4 := Tryz.underlying4
  a4 := Tryz.isAgg4
  z4 := Tryz.sizeOf4
  v4 := Tryz.zeroValue4
  t20 := Tryz.underlying20
  a20 := Tryz.isAgg20
  z20 := Tryz.sizeOf20
  v20 := Tryz.zeroValue20
  t23 := Tryz.underlying56
  a23 := Tryz.isAgg56
  z23 := Tryz.sizeOf56
  v23 := Tryz.zeroValue56 }
end Go.Proofs
