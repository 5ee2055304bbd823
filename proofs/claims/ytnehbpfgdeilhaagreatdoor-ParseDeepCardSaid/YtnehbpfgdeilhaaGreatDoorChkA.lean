/- val.Check: head, shaped -/
import Derived.Test.YtnehbpfgdeilhaaGreatDoorOrd
import Derived.Deep.DeepCutAuto
namespace Go.Proofs.YtnehbpfgdeilhaaGreatDoor
open Go.ChangeShapes Go.WideShapes Go.ChangeAt Go.RowKit Go.Fl

/-- bytes of a value without those of its parts -/
def hdT (k : Int) (s : ByteArray) : Int := if k = 0 then 1 else if k = 1 then 2 else if k = 4 then 3 + s.size else if k = 5 ∨ k = 6 then 3 else 9

theorem hdT_le (k : Int) (s : ByteArray) (hs : s.size ≤ 140737488351232) : 1 ≤ hdT k s ∧ hdT k s ≤ 140737488351235 := by
  unfold hdT; split
  · omega
  · split
    · omega
    · split
      · omega
      · split <;> omega

/-- is a value of a kind, with nothing but what that has? -/
def shpT (k : Int) (b : Bool) (n : Int) (f : Nat) (s : ByteArray) (m : Nat) : Bool :=
  decide (0 ≤ k ∧ k ≤ 8 ∧ (b = true → k = 1) ∧ (n ≠ 0 → k = 2 ∨ k = 7 ∨ k = 8) ∧ (k = 7 ∨ k = 8 → 1 ≤ n) ∧ (f ≠ 0 → k = 3) ∧ (s.toList ≠ [] → k = 4) ∧ (m ≠ 0 → k = 5 ∨ k = 6))

theorem ret_b {a c : Bool} (h : a = c) : Ending.returned (.bool a) = .returned (.bool c) := by rw [h]

end Go.Proofs.YtnehbpfgdeilhaaGreatDoor
