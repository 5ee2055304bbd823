/- contracts of math.Trunc and num.Whole -/
import Derived.Test.YtnehbpfgdeilhaaGreatDoorNumB
import Derived.Test.YtnehbpfgdeilhaaGreatDoorFlW
namespace Go.Proofs.YtnehbpfgdeilhaaGreatDoor
open Go.ChangeShapes Go.WideShapes Go.ChangeAt Go.RowKit Go.Fl

theorem integral_num (name : String) (way : Ieee.Toward) (b : Nat) (s m i) (h : FloatKind.f64.decode b = .number s m i) : Extern.MathFloor.toIntegral name way #[.float .f64 b] = pure (.float .f64 (FloatKind.f64.encode ((FloatKind.f64.decode b).integral way))) := by
  unfold Extern.MathFloor.toIntegral
  generalize FloatKind.f64.decode = dec at *
  rw [h]
  conv => lhs; whnf
  rw [h]

theorem wh_no {b : Nat} (h : wholeB b = false) : wholeI b = 0 := by unfold wholeI; rw [h]; rfl

theorem wh_yes {b : Nat} (h : wholeB b = true) : wholeI b = ival b := by unfold wholeI; rw [h]; rfl

theorem order_self_nan {b : Nat} (h : nanB b = true) : (FloatKind.f64.format.order b b != some .eq) = true := h

theorem nan_order {b : Nat} (hb : b < 18446744073709551616) (h : nanB b = true) (c : Nat) : FloatKind.f64.format.order b c = none := order_nan_l hb ((nan_iff hb).1 h)

theorem num_order {a b : Nat} (ha : a < 18446744073709551616) (hb : b < 18446744073709551616) (na : nanB a = false) (nb : nanB b = false) :
    FloatKind.f64.format.order a b = some .lt ∨ FloatKind.f64.format.order a b = some .eq ∨ FloatKind.f64.format.order a b = some .gt := by
  rw [order_sval ha hb na nb]
  cases compare (sval a) (sval b) <;> simp

theorem n_least : nanB 14114281232179134464 = false := by decide +kernel

theorem n_top : nanB 4890909195324358656 = false := by decide +kernel

end Go.Proofs.YtnehbpfgdeilhaaGreatDoor
