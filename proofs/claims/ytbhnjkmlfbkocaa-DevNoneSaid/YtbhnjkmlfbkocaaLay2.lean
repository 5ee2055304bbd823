/- the library's contracts on copies, at this program -/
import Derived.Shelf.SlicesE.Clone
import Derived.Shelf.SlMaps.Clone
import Derived.Test.YtbhnjkmlfbkocaaProg
namespace Go.Proofs.Ytbhnjkmlfbkocaa
open Go.RowKit Go.Shelf

def cloneSec_ren : Go.Shelf.Ren := ⟨fun | 41 => 53 | n => n, fun | 22 => 75 | 23 => 92 | 4 => 4 | n => n, fun | n => n⟩
theorem cloneSec : Go.Proofs.SlLaysE0.n41 Try.prog cloneSec_ren where
  mixed := by kernel_rfl
  f41 := ⟨ "slices.Clone[[]offshoot/dev.sector,offshoot/dev.sector]", by decide, Try.func53.trans (congrArg some (by kernel_rfl))⟩
  t4 := Try.underlying4
  a4 := Try.isAgg4
  z4 := Try.sizeOf4
  v4 := Try.zeroValue4
  t22 := Try.underlying75
  a22 := Try.isAgg75
  z22 := Try.sizeOf75
  v22 := Try.zeroValue75
def cloneFall_ren : Go.Shelf.Ren := ⟨fun | 41 => 48 | n => n, fun | 22 => 47 | 23 => 40 | 4 => 4 | n => n, fun | n => n⟩
theorem cloneFall : Go.Proofs.SlLaysE0.n41 Try.prog cloneFall_ren where
  mixed := by kernel_rfl
  f41 := ⟨ "slices.Clone[[]offshoot/api.Fall,offshoot/api.Fall]", by decide, Try.func48.trans (congrArg some (by kernel_rfl))⟩
  t4 := Try.underlying4
  a4 := Try.isAgg4
  z4 := Try.sizeOf4
  v4 := Try.zeroValue4
  t22 := Try.underlying47
  a22 := Try.isAgg47
  z22 := Try.sizeOf47
  v22 := Try.zeroValue47
def cloneMap_ren : Go.Shelf.Ren := ⟨fun | 5 => 54 | 7 => 69 | n => n, fun | 23 => 76 | 25 => 3 | 3 => 92 | 4 => 4 | 20 => 20 | n => n, fun | n => n⟩
theorem cloneMap : Go.Proofs.SlLaysW.n5 Try.prog cloneMap_ren where
  mixed := by kernel_rfl
  f5 := ⟨ "maps.Clone[map[int]offshoot/dev.sector,int,offshoot/dev.sector]", by decide, Try.func54.trans (congrArg some (by kernel_rfl))⟩
  f7 := Try.func69.trans (congrArg some (by kernel_rfl))
  t4 := Try.underlying4
  a4 := Try.isAgg4
  z4 := Try.sizeOf4
  v4 := Try.zeroValue4
  t20 := Try.underlying20
  a20 := Try.isAgg20
  z20 := Try.sizeOf20
  v20 := Try.zeroValue20
  t23 := Try.underlying76
  a23 := Try.isAgg76
  z23 := Try.sizeOf76
  v23 := Try.zeroValue76

end Go.Proofs.Ytbhnjkmlfbkocaa
