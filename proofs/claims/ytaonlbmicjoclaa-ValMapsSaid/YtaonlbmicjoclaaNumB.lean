/- contracts of num.Canon, num.Key, num.Cmp, num.Float and of the math functions that they call -/
import Derived.Test.YtaonlbmicjoclaaInts
namespace Go.Proofs.Ytaonlbmicjoclaa
open Go.ChangeShapes Go.WideShapes Go.ChangeAt Go.RowKit Go.Fl

theorem call_bits (b : Nat) (w : World) : (callFunc 41 #[.float .f64 b]).run Try.prog w = .ok (.value (.int .u64 b)) w :=
  (run_callFunc_extern (fn := Try.f41) (e := Extern.MathFloatBits.float64bits) (by kernel_rfl) (by kernel_rfl) (by kernel_rfl) (by kernel_rfl) (by kernel_rfl) _ w).trans rfl

theorem call_from (n : Int) (w : World) : (callFunc 61 #[.int .u64 n]).run Try.prog w = .ok (.value (.float .f64 n.toNat)) w :=
  (run_callFunc_extern (fn := Try.f61) (e := Extern.MathFloatBits.float64frombits) (by kernel_rfl) (by kernel_rfl) (by kernel_rfl) (by kernel_rfl) (by kernel_rfl) _ w).trans rfl

theorem isnan_any (b : Nat) (w : World) :
    Calls Try.prog 60 #[.float .f64 b] w fun e w' => e = .returned (.bool (nanB b)) ∧ w = w' := by
  go_enter Try.func60, Try.ntmps60
  go_wp2
  go_ret
  exact ⟨rfl, rfl⟩

theorem canon_any (b : Nat) (w : World) :
    Calls Try.prog 39 #[.float .f64 b] w fun e w' => e = .returned (.float .f64 (canonN b)) ∧ w = w' := by
  unfold canonN
  rcases h : nanB b with _ | _
  · go_enter Try.func39, Try.ntmps39
    go_wp2_with (go_at_call 60; refine (isnan_any _ _).mono ?_; rintro e w' ⟨rfl, rfl⟩)
    go_ret
    exact ⟨rfl, rfl⟩
  · have hf := call_from
    go_enter Try.func39, Try.ntmps39
    go_wp2_with (go_at_call 60; refine (isnan_any _ _).mono ?_; rintro e w' ⟨rfl, rfl⟩)
    go_ret
    exact ⟨rfl, rfl⟩

theorem canonN_lt (b : Nat) (hb : b < 18446744073709551616) : canonN b < 18446744073709551616 := by unfold canonN; split <;> omega

theorem key_any (b : Nat) (w : World) (hb : b < 18446744073709551616) :
    Calls Try.prog 72 #[.float .f64 b] w fun e w' => e = .returned (.int .u64 (keyN b)) ∧ w = w' := by
  have hc0 := canonN_lt b hb
  unfold keyN
  generalize hc : canonN b = c at hc0 ⊢
  have Hc := Lib.hid hc; clear hc
  by_cases h : 9223372036854775808 ≤ c
  · rw [if_pos h]
    have ht : (bits .and .u64 (c : Int) 9223372036854775808 != 0) = true := by rw [and_hi c hc0, if_pos h]; decide
    have hf := call_bits
    go_enter Try.func72, Try.ntmps72
    go_wp2_with (first | (go_at_call 39; refine (canon_any _ _).mono ?_; rw [Hc.out]; rintro e w' ⟨rfl, rfl⟩))
    go_ret
    exact ⟨ret_int (not_u64 c hc0), rfl⟩
  · rw [if_neg h]
    have ht : (bits .and .u64 (c : Int) 9223372036854775808 != 0) = false := by rw [and_hi c hc0, if_neg h]; decide
    have hf := call_bits
    go_enter Try.func72, Try.ntmps72
    go_wp2_with (first | (go_at_call 39; refine (canon_any _ _).mono ?_; rw [Hc.out]; rintro e w' ⟨rfl, rfl⟩))
    go_ret
    exact ⟨ret_int (or_hi c (by omega)), rfl⟩

def cmpN (a b : Nat) : Int := if keyN a < keyN b then -1 else if keyN b < keyN a then 1 else 0

theorem cmp_lt {a b : Nat} (h : keyN a < keyN b) : cmpN a b = -1 := by unfold cmpN; rw [if_pos h]

theorem cmp_gt {a b : Nat} (h : keyN b < keyN a) : cmpN a b = 1 := by unfold cmpN; rw [if_neg (by omega), if_pos h]

theorem cmp_eq {a b : Nat} (h : keyN a = keyN b) : cmpN a b = 0 := by unfold cmpN; rw [if_neg (by omega), if_neg (by omega)]

theorem cmp_any (a b : Nat) (w : World) (ha : a < 18446744073709551616) (hb : b < 18446744073709551616) :
    Calls Try.prog 57 #[.float .f64 a, .float .f64 b] w fun e w' => e = .returned (.int .i64 (cmpN a b)) ∧ w = w' := by
  have Ha := Lib.hid ha; have Hb := Lib.hid hb; clear ha hb
  rcases Nat.lt_trichotomy (keyN a) (keyN b) with h | h | h
  · rw [cmp_lt h]
    have ht : decide (keyN a < keyN b) = true := by simpa using h
    clear h
    go_enter Try.func57, Try.ntmps57
    go_wp2_with fail
    refine (key_any _ _ Ha.out).mono ?_
    rintro e w' ⟨rfl, rfl⟩
    go_wp2_with fail
    refine (key_any _ _ Hb.out).mono ?_
    rintro e w' ⟨rfl, rfl⟩
    go_wp2
    go_ret
    exact ⟨rfl, rfl⟩
  · rw [cmp_eq h]
    have ht : decide (keyN a < keyN b) = false := by simp; omega
    have ht' : decide (keyN b < keyN a) = false := by simp; omega
    clear h
    go_enter Try.func57, Try.ntmps57
    go_wp2_with fail
    refine (key_any _ _ Ha.out).mono ?_
    rintro e w' ⟨rfl, rfl⟩
    go_wp2_with fail
    refine (key_any _ _ Hb.out).mono ?_
    rintro e w' ⟨rfl, rfl⟩
    go_wp2
    go_ret
    exact ⟨rfl, rfl⟩
  · rw [cmp_gt h]
    have ht : decide (keyN a < keyN b) = false := by simp; omega
    have ht' : decide (keyN b < keyN a) = true := by simpa using h
    clear h
    go_enter Try.func57, Try.ntmps57
    go_wp2_with fail
    refine (key_any _ _ Ha.out).mono ?_
    rintro e w' ⟨rfl, rfl⟩
    go_wp2_with fail
    refine (key_any _ _ Hb.out).mono ?_
    rintro e w' ⟨rfl, rfl⟩
    go_wp2
    go_ret
    exact ⟨rfl, rfl⟩

theorem signbit_any (b : Nat) (w : World) (hb : b < 18446744073709551616) :
    Calls Try.prog 64 #[.float .f64 b] w fun e w' => e = .returned (.bool (neg b)) ∧ w = w' := by
  have hf := call_bits
  have e1 : neg b = decide (wrap64 (b : Int) < 0) := by unfold neg wrap64; rw [Bool.eq_iff_iff]; simp; omega
  rw [e1]; clear e1
  go_enter Try.func64, Try.ntmps64
  go_wp2
  go_ret
  exact ⟨rfl, rfl⟩

theorem cmp_turn (a b : Nat) : cmpN b a = -cmpN a b := by
  rcases Nat.lt_trichotomy (keyN a) (keyN b) with h | h | h
  · rw [cmp_lt h, cmp_gt h]; rfl
  · rw [cmp_eq h, cmp_eq h.symm]; rfl
  · rw [cmp_lt h, cmp_gt h]

theorem cmp_cases (a b : Nat) : -1 ≤ cmpN a b ∧ cmpN a b ≤ 1 := by
  unfold cmpN; split
  · omega
  · split <;> omega

theorem cmp_neg (a b : Nat) : decide (keyN a < keyN b) = decide (cmpN a b < 0) := by
  rcases Nat.lt_trichotomy (keyN a) (keyN b) with h | h | h
  · rw [cmp_lt h, decide_eq_true h]; rfl
  · rw [cmp_eq h, decide_eq_false (by omega)]; rfl
  · rw [cmp_gt h, decide_eq_false (by omega)]; rfl

theorem cmp_zero (a b : Nat) : (((keyN a : Nat) : Int) == ((keyN b : Nat) : Int)) = (cmpN a b == 0) := by
  rcases Nat.lt_trichotomy (keyN a) (keyN b) with h | h | h
  · rw [cmp_lt h, Bool.eq_iff_iff]; simp; omega
  · rw [cmp_eq h, Bool.eq_iff_iff]; simp; omega
  · rw [cmp_gt h, Bool.eq_iff_iff]; simp; omega

end Go.Proofs.Ytaonlbmicjoclaa
