/- contracts of num.Canon, num.Key, num.Cmp, num.Float and of the math functions that they call -/
import Derived.Test.YtnehbpfgdeilhaaGreatDoorInts
namespace Go.Proofs.YtnehbpfgdeilhaaGreatDoor
open Go.ChangeShapes Go.WideShapes Go.ChangeAt Go.RowKit Go.Fl

theorem call_bits (b : Nat) (w : World) : (callFunc 31 #[.float .f64 b]).run Tryz.prog w = .ok (.value (.int .u64 b)) w :=
  (run_callFunc_extern (fn := Tryz.f31) (e := Extern.MathFloatBits.float64bits) (by kernel_rfl) (by kernel_rfl) (by kernel_rfl) (by kernel_rfl) (by kernel_rfl) _ w).trans rfl

theorem call_from (n : Int) (w : World) : (callFunc 35 #[.int .u64 n]).run Tryz.prog w = .ok (.value (.float .f64 n.toNat)) w :=
  (run_callFunc_extern (fn := Tryz.f35) (e := Extern.MathFloatBits.float64frombits) (by kernel_rfl) (by kernel_rfl) (by kernel_rfl) (by kernel_rfl) (by kernel_rfl) _ w).trans rfl

theorem isnan_any (b : Nat) (w : World) :
    Calls Tryz.prog 72 #[.float .f64 b] w fun e w' => e = .returned (.bool (nanB b)) ∧ w = w' := by
  go_enter Tryz.func72, Tryz.ntmps72
  go_wp2
  go_ret
  exact ⟨rfl, rfl⟩

theorem canon_any (b : Nat) (w : World) :
    Calls Tryz.prog 51 #[.float .f64 b] w fun e w' => e = .returned (.float .f64 (canonN b)) ∧ w = w' := by
  unfold canonN
  rcases h : nanB b with _ | _
  · go_enter Tryz.func51, Tryz.ntmps51
    go_wp2_with (go_at_call 72; refine (isnan_any _ _).mono ?_; rintro e w' ⟨rfl, rfl⟩)
    go_ret
    exact ⟨rfl, rfl⟩
  · have hf := call_from
    go_enter Tryz.func51, Tryz.ntmps51
    go_wp2_with (go_at_call 72; refine (isnan_any _ _).mono ?_; rintro e w' ⟨rfl, rfl⟩)
    go_ret
    exact ⟨rfl, rfl⟩

theorem canonN_lt (b : Nat) (hb : b < 18446744073709551616) : canonN b < 18446744073709551616 := by unfold canonN; split <;> omega

def cmpN (a b : Nat) : Int := if keyN a < keyN b then -1 else if keyN b < keyN a then 1 else 0

theorem cmp_lt {a b : Nat} (h : keyN a < keyN b) : cmpN a b = -1 := by unfold cmpN; rw [if_pos h]

theorem cmp_gt {a b : Nat} (h : keyN b < keyN a) : cmpN a b = 1 := by unfold cmpN; rw [if_neg (by omega), if_pos h]

theorem cmp_eq {a b : Nat} (h : keyN a = keyN b) : cmpN a b = 0 := by unfold cmpN; rw [if_neg (by omega), if_neg (by omega)]

theorem cmp_turn (a b : Nat) : cmpN b a = -cmpN a b := by
  rcases Nat.lt_trichotomy (keyN a) (keyN b) with h | h | h
  · rw [cmp_lt h, cmp_gt h]; rfl
  · rw [cmp_eq h, cmp_eq h.symm]; rfl
  · rw [cmp_lt h, cmp_gt h]

theorem cmp_cases (a b : Nat) : -1 ≤ cmpN a b ∧ cmpN a b ≤ 1 := by
  unfold cmpN; split
  · omega
  · split <;> omega

theorem cmp_neg (a b : Nat) : decide (keyN a < keyN b) = decide (cmpN a b < 0) := by
  rcases Nat.lt_trichotomy (keyN a) (keyN b) with h | h | h
  · rw [cmp_lt h, decide_eq_true h]; rfl
  · rw [cmp_eq h, decide_eq_false (by omega)]; rfl
  · rw [cmp_gt h, decide_eq_false (by omega)]; rfl

theorem cmp_zero (a b : Nat) : (((keyN a : Nat) : Int) == ((keyN b : Nat) : Int)) = (cmpN a b == 0) := by
  rcases Nat.lt_trichotomy (keyN a) (keyN b) with h | h | h
  · rw [cmp_lt h, Bool.eq_iff_iff]; simp; omega
  · rw [cmp_eq h, Bool.eq_iff_iff]; simp; omega
  · rw [cmp_gt h, Bool.eq_iff_iff]; simp; omega

end Go.Proofs.YtnehbpfgdeilhaaGreatDoor
