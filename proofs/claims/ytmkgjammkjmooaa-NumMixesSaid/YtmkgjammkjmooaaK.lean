/- contracts: math.Inf, math.Nextafter towards -Inf, num.Split, the reference's Split -/
import Derived.Test.YtmkgjammkjmooaaI
import Derived.Test.YtmkgjammkjmooaaJ
namespace Go.Proofs.Ytmkgjammkjmooaa
open Go.ChangeShapes Go.WideShapes Go.ChangeAt Go.RowKit Go.Fl

def minf : Nat := 18442240474082181120
theorem inf_any (w : World) : Calls Try.prog 38 #[.int .i64 (-1)] w fun e w' => e = .returned (.float .f64 minf) ∧ w = w' := by
  have hf : ∀ w, (callFunc 34 #[.int .u64 18442240474082181120]).run Try.prog w = .ok (.value (.float .f64 minf)) w := fun w => call_from _ w
  go_enter Try.func38, Try.ntmps38
  go_wp2
  go_ret
  exact ⟨rfl, rfl⟩
theorem minf_nan : nanB minf = false := by decide +kernel
theorem minf_low {b : Nat} (hb : b < 18446744073709551616) (h : rung b < 9218868437227405312) :
    FloatKind.f64.format.order b minf = some .gt ∧ FloatKind.f64.format.order minf b = some .lt := by
  have hn : nanB b = false := (nan_iff' hb).2 (by omega)
  have hs : srung minf < srung b := by
    have e : srung minf = -9218868437227405312 := by decide +kernel
    rw [e]; unfold srung sgn; cases neg b <;> simp <;> omega
  have hs' := sval_lt.2 hs
  rw [order_sval hb (by decide) hn minf_nan, order_sval (by decide) hb minf_nan hn, compare_lt hs', compare_gt hs']
  exact ⟨rfl, rfl⟩
theorem zero_side {b : Nat} (hb : b < 18446744073709551616) (h : rung b < 9218868437227405312) (h0 : 0 < rung b) :
    FloatKind.f64.format.order b 0 = some (if neg b then .lt else .gt) := by
  have hn : nanB b = false := (nan_iff' hb).2 (by omega)
  have e0 : sval 0 = 0 := by decide +kernel
  have hl := ladder_pos.2 h0
  rw [order_sval hb (by decide) hn (by decide +kernel), e0]
  unfold sval sgn
  cases neg b <;> simp <;> first | exact compare_gt (by omega) | exact compare_lt (by omega)
theorem next_pos (b : Nat) (w : World) (h0 : 0 < b) (h : b < 9218868437227405312) :
    Calls Try.prog 37 #[.float .f64 b, .float .f64 minf] w fun e w' => e = .returned (.float .f64 (b - 1)) ∧ w = w' := by
  have hb : b < 18446744073709551616 := by omega
  have hr : rung b = b := by unfold rung; omega
  obtain ⟨o1, o2⟩ := minf_low hb (by omega)
  have hn : nanB b = false := (nan_iff' hb).2 (by omega)
  have o3 := zero_side hb (by omega) (by omega)
  rw [show neg b = false from by unfold neg; simp; omega] at o3
  have o3' : FloatKind.f64.format.order b 0 = some .gt := o3
  have hm := minf_nan
  have hf : ∀ w, (callFunc 34 #[.int .u64 ((b : Int) - 1)]).run Try.prog w = .ok (.value (.float .f64 (b - 1))) w := by
    intro w; rw [call_from, show ((b : Int) - 1).toNat = b - 1 from by omega]
  have hg := call_bits
  have Hn := Lib.hid hn; have Hm := Lib.hid hm
  clear hn hm hr o3
  generalize minf = y at *
  generalize hq : b - 1 = q at *
  have Hq := Lib.hid hq; clear hq
  go_enter Try.func37, Try.ntmps37
  go_wp2_with fail
  refine (isnan_any _ _).mono ?_
  rw [Hn.out]
  rintro e w' ⟨rfl, rfl⟩
  go_wp2_with fail
  refine (isnan_any _ _).mono ?_
  rw [Hm.out]
  rintro e w' ⟨rfl, rfl⟩
  go_wp2
  go_ret
  exact ⟨rfl, rfl⟩
theorem next_neg (b : Nat) (w : World) (h0 : 9223372036854775808 < b) (h : b < 18442240474082181119) :
    Calls Try.prog 37 #[.float .f64 b, .float .f64 minf] w fun e w' => e = .returned (.float .f64 (b + 1)) ∧ w = w' := by
  have hb : b < 18446744073709551616 := by omega
  have hr : rung b = b - 9223372036854775808 := by unfold rung; omega
  obtain ⟨o1, o2⟩ := minf_low hb (by omega)
  have hn : nanB b = false := (nan_iff' hb).2 (by omega)
  have o3 := zero_side hb (by omega) (by omega)
  rw [show neg b = true from by unfold neg; simp; omega] at o3
  have o3' : FloatKind.f64.format.order b 0 = some .lt := o3
  have hm := minf_nan
  have hf : ∀ w, (callFunc 34 #[.int .u64 ((b : Int) + 1)]).run Try.prog w = .ok (.value (.float .f64 (b + 1))) w := by
    intro w; rw [call_from, show ((b : Int) + 1).toNat = b + 1 from by omega]
  have hg := call_bits
  have Hn := Lib.hid hn; have Hm := Lib.hid hm
  clear hn hm hr o3
  generalize minf = y at *
  generalize hq : b + 1 = q at *
  have Hq := Lib.hid hq; clear hq
  go_enter Try.func37, Try.ntmps37
  go_wp2_with fail
  refine (isnan_any _ _).mono ?_
  rw [Hn.out]
  rintro e w' ⟨rfl, rfl⟩
  go_wp2_with fail
  refine (isnan_any _ _).mono ?_
  rw [Hm.out]
  rintro e w' ⟨rfl, rfl⟩
  go_wp2
  go_ret
  exact ⟨rfl, rfl⟩
end Go.Proofs.Ytmkgjammkjmooaa
