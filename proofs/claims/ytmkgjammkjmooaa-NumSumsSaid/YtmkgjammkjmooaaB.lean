/- contracts of the float functions -/
import Derived.Test.YtmkgjammkjmooaaA
import Derived.Test.YtmkgjammkjmooaaF
import Derived.Laws.FloatArith
import Derived.Laws.BitsAllLaws
import Derived.Laws.Bits64b
import Derived.Deep.QuietTactic
import Derived.BigQuiet
namespace Go.Proofs.Ytmkgjammkjmooaa
open Go.ChangeShapes Go.WideShapes Go.ChangeAt Go.RowKit Go.Fl

theorem call_bits (b : Nat) (w : World) : (callFunc 22 #[.float .f64 b]).run Try.prog w = .ok (.value (.int .u64 b)) w :=
  (run_callFunc_extern (fn := Try.f22) (e := Extern.MathFloatBits.float64bits) (by kernel_rfl) (by kernel_rfl) (by kernel_rfl) (by kernel_rfl) (by kernel_rfl) _ w).trans rfl
theorem call_from (n : Int) (w : World) : (callFunc 34 #[.int .u64 n]).run Try.prog w = .ok (.value (.float .f64 n.toNat)) w :=
  (run_callFunc_extern (fn := Try.f34) (e := Extern.MathFloatBits.float64frombits) (by kernel_rfl) (by kernel_rfl) (by kernel_rfl) (by kernel_rfl) (by kernel_rfl) _ w).trans rfl

theorem isnan_any (b : Nat) (w : World) :
    Calls Try.prog 35 #[.float .f64 b] w fun e w' => e = .returned (.bool (nanB b)) ∧ w = w' := by
  go_enter Try.func35, Try.ntmps35
  go_wp2
  go_ret
  exact ⟨rfl, rfl⟩

theorem canon_any (b : Nat) (w : World) :
    Calls Try.prog 24 #[.float .f64 b] w fun e w' => e = .returned (.float .f64 (canonN b)) ∧ w = w' := by
  unfold canonN
  rcases h : nanB b with _ | _
  · go_enter Try.func24, Try.ntmps24
    go_wp2_with (go_at_call 35; refine (isnan_any _ _).mono ?_; rintro e w' ⟨rfl, rfl⟩)
    go_ret
    exact ⟨rfl, rfl⟩
  · have hf := call_from
    go_enter Try.func24, Try.ntmps24
    go_wp2_with (go_at_call 35; refine (isnan_any _ _).mono ?_; rintro e w' ⟨rfl, rfl⟩)
    go_ret
    exact ⟨rfl, rfl⟩
theorem nat_and_hi (c : Nat) (h : c < 18446744073709551616) : c &&& 9223372036854775808 = if 9223372036854775808 ≤ c then 9223372036854775808 else 0 := by
  have := nat_bit 63 c
  rw [show (9223372036854775808 : Nat) = 2 ^ 63 from by decide, this]
  split <;> rename_i hc
  · have e : c / 2 ^ 63 = 1 := by simp at hc ⊢; omega
    rw [e]
  · have e : c / 2 ^ 63 = 0 := by simp at hc ⊢; omega
    rw [e]
theorem and_hi (c : Nat) (h : c < 18446744073709551616) : bits .and .u64 (c : Int) 9223372036854775808 = if 9223372036854775808 ≤ c then 9223372036854775808 else 0 := by
  have := u64_and_nat c 9223372036854775808 h (by decide)
  rw [nat_and_hi c h] at this
  refine Eq.trans this ?_
  split <;> rfl
theorem or_hi (c : Nat) (h : c < 9223372036854775808) : bits .or .u64 (c : Int) 9223372036854775808 = ((c + 9223372036854775808 : Nat) : Int) := by
  have := u64_or_nat c 9223372036854775808 (by omega) (by decide)
  rw [Nat.or_comm, nat_join 63 9223372036854775808 c (by decide) (by simpa using h), Nat.add_comm] at this
  exact this
theorem xor_hi (c : Nat) (h : c < 18446744073709551616) (h' : 9223372036854775808 ≤ c) : bits .xor .u64 (c : Int) 9223372036854775808 = ((c - 9223372036854775808 : Nat) : Int) := by
  have := u64_xor_nat c 9223372036854775808 (by omega) (by decide)
  obtain ⟨d, rfl⟩ : ∃ d, c = d + 9223372036854775808 := ⟨c - 9223372036854775808, by omega⟩
  refine this.trans ?_
  have e : d + 9223372036854775808 = 9223372036854775808 ^^^ d := by
    have hd : d < 2 ^ 63 := by simp; omega
    have e1 := nat_join 63 9223372036854775808 d (by decide) hd
    rw [Nat.add_comm, ← e1]
    apply Nat.eq_of_testBit_eq; intro i
    rw [Nat.testBit_or, Nat.testBit_xor]
    by_cases hi : i < 63
    · have : Nat.testBit 9223372036854775808 i = false := by
        rw [show (9223372036854775808 : Nat) = 2 ^ 63 from by decide, Nat.testBit_two_pow]; simp; omega
      simp [this]
    · have : d.testBit i = false := Nat.testBit_lt_two_pow (Nat.lt_of_lt_of_le hd (Nat.pow_le_pow_right (by decide) (by omega)))
      simp [this]
  rw [e, Nat.xor_comm 9223372036854775808 d, Nat.xor_assoc, Nat.xor_self, Nat.xor_zero, Nat.xor_comm d, ← e]; simp
theorem not_u64 (c : Nat) (h : c < 18446744073709551616) : bits .xor .u64 IntKind.u64.max (c : Int) = ((18446744073709551615 - c : Nat) : Int) := by
  have e0 : IntKind.u64.max = ((18446744073709551615 : Nat) : Int) := by decide
  rw [e0, u64_xor_nat _ c (by decide) h]
  congr 1
  have e1 : (18446744073709551615 : Nat) = 2 ^ 64 - 1 := by decide
  rw [e1]
  apply Nat.eq_of_testBit_eq; intro i
  rw [Nat.testBit_xor, Nat.testBit_two_pow_sub_one, show 2 ^ 64 - 1 - c = 2 ^ 64 - (c + 1) from by omega, Nat.testBit_two_pow_sub_succ (by simpa using h)]
  by_cases hi : i < 64
  · simp [hi]
  · have : c.testBit i = false := Nat.testBit_lt_two_pow (Nat.lt_of_lt_of_le (by simpa using h) (Nat.pow_le_pow_right (by decide) (Nat.le_of_not_lt hi)))
    simp [hi, this]
theorem ret_int {k : IntKind} {a b : Int} (h : a = b) : Ending.returned (.int k a) = .returned (.int k b) := by rw [h]
theorem ret_flt {a b : Nat} (h : a = b) : Ending.returned (.float .f64 a) = .returned (.float .f64 b) := by rw [h]
theorem canonN_lt (b : Nat) (hb : b < 18446744073709551616) : canonN b < 18446744073709551616 := by unfold canonN; split <;> omega

theorem key_any (b : Nat) (w : World) (hb : b < 18446744073709551616) :
    Calls Try.prog 20 #[.float .f64 b] w fun e w' => e = .returned (.int .u64 (keyN b)) ∧ w = w' := by
  have hc0 := canonN_lt b hb
  unfold keyN
  generalize hc : canonN b = c at hc0 ⊢
  have Hc := Lib.hid hc; clear hc
  by_cases h : 9223372036854775808 ≤ c
  · rw [if_pos h]
    have ht : (bits .and .u64 (c : Int) 9223372036854775808 != 0) = true := by rw [and_hi c hc0, if_pos h]; decide
    have hf := call_bits
    go_enter Try.func20, Try.ntmps20
    go_wp2_with (first | (go_at_call 24; refine (canon_any _ _).mono ?_; rw [Hc.out]; rintro e w' ⟨rfl, rfl⟩))
    go_ret
    exact ⟨ret_int (not_u64 c hc0), rfl⟩
  · rw [if_neg h]
    have ht : (bits .and .u64 (c : Int) 9223372036854775808 != 0) = false := by rw [and_hi c hc0, if_neg h]; decide
    have hf := call_bits
    go_enter Try.func20, Try.ntmps20
    go_wp2_with (first | (go_at_call 24; refine (canon_any _ _).mono ?_; rw [Hc.out]; rintro e w' ⟨rfl, rfl⟩))
    go_ret
    exact ⟨ret_int (or_hi c (by omega)), rfl⟩
end Go.Proofs.Ytmkgjammkjmooaa
