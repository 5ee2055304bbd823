/- strings.Repeat -/
import Derived.Test.YtnehbpfgdeilhaaGreatDoorTxt
import Derived.Test.YtnehbpfgdeilhaaGreatDoorLay3
namespace Go.Proofs.YtnehbpfgdeilhaaGreatDoor
open Go.ChangeShapes Go.WideShapes Go.ChangeAt Go.RowKit
open Go.Shelf

theorem rep_extra : Builder.Extra Tryz.prog repeatA_ren := {
  sizeBuilder := by kernel_rfl
  liesBuilder := by kernel_rfl
  t5 := Tryz.underlying5
  a5 := Tryz.isAgg5
  z5 := Tryz.sizeOf5
  v5 := Tryz.zeroValue5
  infoByte := by kernel_rfl
  cellsByte := by kernel_rfl
  sizeByte := by kernel_rfl
  neB5 := by decide }

theorem repeat_any (s : ByteArray) (c : Nat) (w : World) (hlen : s.size * c ≤ 140737488355328) (hc : c ≤ 9223372036854775807) :
    Calls Tryz.prog 52 #[.string s, .int .i64 c] w fun e w' => e = .returned (.string ⟨(Lib.repeatL s.data.toList c).toArray⟩) ∧ Below w.heap.size w w' := Any.strings_Repeat repeatA rep_extra s c w hc hlen

theorem repeat_nought : ∀ c : Nat, Lib.repeatL [(0 : UInt8)] c = List.replicate c 0
  | 0 => rfl
  | c + 1 => by
    unfold Lib.repeatL
    first
      | (rw [repeat_nought c]; rfl)
      | (simp [List.replicate_succ])

end Go.Proofs.YtnehbpfgdeilhaaGreatDoor
