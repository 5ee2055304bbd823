/- contracts of the reference of layer 1: Canon, Key, Less, Cmp -/
import Derived.Test.YtnehbpfgdeilhaaGreatDoorNumB
namespace Go.Proofs.YtnehbpfgdeilhaaGreatDoor
open Go.ChangeShapes Go.WideShapes Go.ChangeAt Go.RowKit Go.Fl

theorem rcanon_any (b : Nat) (w : World) :
    Calls Tryz.prog 20 #[.float .f64 b] w fun e w' => e = .returned (.int .u64 (canonN b)) ∧ w = w' := by
  unfold canonN
  have hf := call_bits
  rcases h : nanB b with _ | _
  · have h1 : (FloatKind.f64.format.order b b != some .eq) = false := h
    clear h
    go_enter Tryz.func20, Tryz.ntmps20
    go_wp2
    go_ret
    exact ⟨rfl, rfl⟩
  · have h1 : (FloatKind.f64.format.order b b != some .eq) = true := h
    clear h
    go_enter Tryz.func20, Tryz.ntmps20
    go_wp2
    go_ret
    exact ⟨rfl, rfl⟩

end Go.Proofs.YtnehbpfgdeilhaaGreatDoor
