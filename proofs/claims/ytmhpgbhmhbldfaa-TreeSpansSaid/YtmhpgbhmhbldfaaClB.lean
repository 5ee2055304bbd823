/- strings.Clone, of any text -/
import Derived.Test.YtmhpgbhmhbldfaaInts
import Derived.Test.YtmhpgbhmhbldfaaLay4
namespace Go.Proofs.Ytmhpgbhmhbldfaa
open Go.ChangeShapes Go.WideShapes Go.ChangeAt Go.RowKit
open Go.Shelf

theorem lite_cloneB (s : ByteArray) (w : World) (h : s.size ≤ 281474976710656) : Calls Try.prog 36 #[.string s] w fun e w' => e = .returned (.string s) ∧ Below w.heap.size w w' := Any.stringslite_Clone cloneStrA s w h

theorem cloneB (s : ByteArray) (w : World) (h : s.size ≤ 281474976710656) : Calls Try.prog 21 #[.string s] w fun e w' => e = .returned (.string s) ∧ Below w.heap.size w w' := by
  have HC := Lib.hid (lite_cloneB s w h)
  clear h
  go_enter Try.func21, Try.ntmps21
  go_wp2_with (first
    | (go_at_call 36; (with_reducible refine HC.out.mono ?_); rintro e w' ⟨rfl, hb⟩)
    | fail)
  go_ret
  exact ⟨rfl, hb⟩

end Go.Proofs.Ytmhpgbhmhbldfaa
