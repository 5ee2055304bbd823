/- the first copy of the maps of a tree -/
import Derived.Test.YtmhpgbhmhbldfaaTrS
import Derived.Maps.RangeWalk
namespace Go.Proofs.Ytmhpgbhmhbldfaa
open Go.ChangeShapes Go.WideShapes Go.ChangeAt Go.RowKit

set_option maxHeartbeats 1000000 in
set_option maxRecDepth 100000 in
theorem copy0_c (d : Option Nat) (w : World) : Calls Try.prog 49 #[.map d, .map none] w fun e w' => e = .returned (.tuple #[]) ∧ Below w.heap.size w w' := by
  have hrg := run_range_nilMap (P := Try.prog) w 45 26 60 Try.underlying45
  have hnx : ∀ ty, (Instr.next (.pointer (some ⟨w.heap.size, 0, none⟩)) false ty).run Try.prog (w.alloc (.mapIter none 0 #[] 0)) = _ := fun ty => run_next_nilMap _ ty 0 0 #[]
  have hb : Below w.heap.size w (w.alloc (.mapIter none 0 #[] 0)) := (Below.refl _ _).alloc (Nat.le_refl _) _
  have HB := Lib.hid hb
  clear hb
  go_enter Try.func49, Try.ntmps49
  go_wp2_with fail
  go_loopg [8] 1 (fun _ _ wr => wr = w.alloc (.mapIter none 0 #[] 0))
  case atStart => rfl
  case round =>
    subst hrel
    go_wp2_with fail
    go_end0
    refine ⟨rfl, ?_⟩
    first | exact HB.out | exact HB.out.trans (Below.refl _ _)

set_option maxHeartbeats 1000000 in
set_option maxRecDepth 100000 in
theorem copy0_g (d : Option Nat) (w : World) : Calls Try.prog 50 #[.map d, .map none] w fun e w' => e = .returned (.tuple #[]) ∧ Below w.heap.size w w' := by
  have hrg := run_range_nilMap (P := Try.prog) w 46 26 83 Try.underlying46
  have hnx : ∀ ty, (Instr.next (.pointer (some ⟨w.heap.size, 0, none⟩)) false ty).run Try.prog (w.alloc (.mapIter none 0 #[] 0)) = _ := fun ty => run_next_nilMap _ ty 0 0 #[]
  have hb : Below w.heap.size w (w.alloc (.mapIter none 0 #[] 0)) := (Below.refl _ _).alloc (Nat.le_refl _) _
  have HB := Lib.hid hb
  clear hb
  go_enter Try.func50, Try.ntmps50
  go_wp2_with fail
  go_loopg [8] 1 (fun _ _ wr => wr = w.alloc (.mapIter none 0 #[] 0))
  case atStart => rfl
  case round =>
    subst hrel
    go_wp2_with fail
    go_end0
    refine ⟨rfl, ?_⟩
    first | exact HB.out | exact HB.out.trans (Below.refl _ _)

end Go.Proofs.Ytmhpgbhmhbldfaa
