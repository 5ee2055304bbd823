/- val.Check: shaped -/
import Derived.Test.YtaonlbmicjoclaaChkS0
import Derived.Test.YtaonlbmicjoclaaChkS1
import Derived.Test.YtaonlbmicjoclaaChkS2
namespace Go.Proofs.Ytaonlbmicjoclaa
open Go.ChangeShapes Go.WideShapes Go.ChangeAt Go.RowKit Go.Fl

theorem shaped_out (k n : Int) (b : Bool) (f : Nat) (s : ByteArray) (m : Nat) (A : Option Addr) (cap : Nat) (w : World) (hk : k < 0 ∨ 8 < k) :
    Calls Try.prog 66 #[.agg #[.int .i64 k, .bool b, .int .i64 n, .float .f64 f, .string s, .slice A m cap]] w fun e w' => e = .returned (.bool (shpT k b n f s m)) ∧ Below w.heap.size w w' := by
  have HR := Lib.hid (show shpT k b n f s m = false by unfold shpT; simp; omega)
  have d0 : (k == 0) = false := by simp; omega
  have d1 : (k == 1) = false := by simp; omega
  have d2 : (k == 2) = false := by simp; omega
  have d3 : (k == 3) = false := by simp; omega
  have d4 : (k == 4) = false := by simp; omega
  have d5 : (k == 5) = false := by simp; omega
  have d6 : (k == 6) = false := by simp; omega
  have d7 : (k == 7) = false := by simp; omega
  have d8 : (k == 8) = false := by simp; omega
  clear hk
  go_enter Try.func66, Try.ntmps66
  go_wp2_with fail
  go_quiet (fail)
  go_wp2_with fail
  go_ret
  exact ⟨ret_b (by rw [HR.out]), below_drewN ((Below.refl _ _).alloc (Nat.le_refl _) _) _⟩

theorem shaped_any (k n : Int) (b : Bool) (f : Nat) (s : ByteArray) (m : Nat) (A : Option Addr) (cap : Nat) (w : World) :
    Calls Try.prog 66 #[.agg #[.int .i64 k, .bool b, .int .i64 n, .float .f64 f, .string s, .slice A m cap]] w fun e w' => e = .returned (.bool (shpT k b n f s m)) ∧ Below w.heap.size w w' := by
  by_cases hk : k < 0 ∨ 8 < k
  · exact shaped_out k n b f s m A cap w hk
  · have hc : k = 0 ∨ k = 1 ∨ k = 2 ∨ k = 3 ∨ k = 4 ∨ k = 5 ∨ k = 6 ∨ k = 7 ∨ k = 8 := by omega
    rcases hc with rfl | rfl | rfl | rfl | rfl | rfl | rfl | rfl | rfl
    · exact shaped_0 n b f s m A cap w
    · exact shaped_1 n b f s m A cap w
    · exact shaped_2 n b f s m A cap w
    · exact shaped_3 n b f s m A cap w
    · exact shaped_4 n b f s m A cap w
    · exact shaped_5 n b f s m A cap w
    · exact shaped_6 n b f s m A cap w
    · exact shaped_7 n b f s m A cap w
    · exact shaped_8 n b f s m A cap w

end Go.Proofs.Ytaonlbmicjoclaa
