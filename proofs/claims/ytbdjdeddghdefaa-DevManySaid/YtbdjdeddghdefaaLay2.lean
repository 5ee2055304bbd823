/- the library's contracts on copies, at this program -/
import Derived.Shelf.SlicesE.Clone
import Derived.Shelf.SlMaps.Clone
import Derived.Test.YtbdjdeddghdefaaProg
namespace Go.Proofs.Ytbdjdeddghdefaa
open Go.RowKit Go.Shelf

def cloneFall_ren : Go.Shelf.Ren := ⟨fun | 41 => 48 | n => n, fun | 22 => 57 | 23 => 40 | 4 => 4 | n => n, fun | n => n⟩
theorem cloneFall : Go.Proofs.SlLaysE0.n41 Try.prog cloneFall_ren where
  mixed := by kernel_rfl
  f41 := ⟨ "slices.Clone[[]offshoot/api.Fall,offshoot/api.Fall]", by decide, Try.func48.trans (congrArg some (by kernel_rfl))⟩
  t4 := Try.underlying4
  a4 := Try.isAgg4
  z4 := Try.sizeOf4
  v4 := Try.zeroValue4
  t22 := Try.underlying57
  a22 := Try.isAgg57
  z22 := Try.sizeOf57
  v22 := Try.zeroValue57

end Go.Proofs.Ytbdjdeddghdefaa
