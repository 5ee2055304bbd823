/- Plain facts on keys of floats (no program). -/
import Derived.Test.YtmhpgbhmhbldfaaFlF
namespace Go.Fl
open Ieee
def srung (b : Nat) : Int := sgn (neg b) (rung b)
theorem ladder_pos {r : Nat} : 0 < ladder r ↔ 0 < r := by
  have := @ladder_lt_iff 0 r; rw [ladder_zero] at this; exact this
theorem sval_lt {a b : Nat} : sval a < sval b ↔ srung a < srung b := by
  have h1 := @ladder_lt_iff (rung a) (rung b)
  have h2 := @ladder_lt_iff (rung b) (rung a)
  have h3 := @ladder_pos (rung a)
  have h4 := @ladder_pos (rung b)
  unfold sval srung sgn
  generalize ladder (rung a) = la at *
  generalize ladder (rung b) = lb at *
  generalize rung a = ra at *
  generalize rung b = rb at *
  cases neg a <;> cases neg b <;> simp <;> omega
theorem sval_eq {a b : Nat} : sval a = sval b ↔ srung a = srung b := by
  have h1 := @sval_lt a b
  have h2 := @sval_lt b a
  omega
theorem rung_lt (b : Nat) : rung b < 9223372036854775808 := by unfold rung; omega
theorem word_of (b : Nat) (hb : b < 18446744073709551616) : b = (if neg b then 9223372036854775808 else 0) + rung b := by
  unfold rung neg; by_cases h : 9223372036854775808 ≤ b <;> simp [h] <;> omega
theorem keyN_nan {b : Nat} (h : nanB b = true) : keyN b = 18444492273895866369 := by simp [keyN, canonN, h]
theorem keyN_num {b : Nat} (hb : b < 18446744073709551616) (h : nanB b = false) : (keyN b : Int) = if neg b then 9223372036854775807 - (rung b : Int) else 9223372036854775808 + (rung b : Int) := by
  unfold keyN canonN; rw [h]
  have h1 : neg b = decide (9223372036854775808 ≤ b) := rfl
  have h2 : rung b = b % 9223372036854775808 := rfl
  by_cases h3 : 9223372036854775808 ≤ b <;> simp [h1, h3] <;> omega
theorem nan_iff {b : Nat} (hb : b < 18446744073709551616) : nanB b = true ↔ 9218868437227405312 < rung b := by rw [nanB_eq hb]; simp
theorem nan_iff' {b : Nat} (hb : b < 18446744073709551616) : nanB b = false ↔ rung b ≤ 9218868437227405312 := by rw [nanB_eq hb]; simp
/-- of numbers: what Go's < says -/
def ltB (a b : Nat) : Bool := FloatKind.f64.format.order a b == some .lt
def eqB (a b : Nat) : Bool := FloatKind.f64.format.order a b == some .eq
theorem ltB_eq {a b : Nat} (ha : a < 18446744073709551616) (hb : b < 18446744073709551616) (na : nanB a = false) (nb : nanB b = false) : ltB a b = decide (srung a < srung b) := by
  unfold ltB; show (double.order a b == some .lt) = _
  rw [order_eq ha hb ((nan_iff' ha).1 na) ((nan_iff' hb).1 nb), Bool.eq_iff_iff]
  simp [compare_lt_iff, sval_lt]
theorem eqB_eq {a b : Nat} (ha : a < 18446744073709551616) (hb : b < 18446744073709551616) (na : nanB a = false) (nb : nanB b = false) : eqB a b = decide (srung a = srung b) := by
  unfold eqB; show (double.order a b == some .eq) = _
  rw [order_eq ha hb ((nan_iff' ha).1 na) ((nan_iff' hb).1 nb), Bool.eq_iff_iff]
  simp only [beq_iff_eq, Option.some.injEq, compare_eq_iff, decide_eq_true_eq, sval_eq]
/-- the document's order: by sizes, -0 below 0, no number above all -/
theorem key_lt_num {a b : Nat} (ha : a < 18446744073709551616) (hb : b < 18446744073709551616) (na : nanB a = false) (nb : nanB b = false) :
    keyN a < keyN b ↔ srung a < srung b ∨ (rung a = 0 ∧ rung b = 0 ∧ neg a = true ∧ neg b = false) := by
  have h1 := keyN_num ha na
  have h2 := keyN_num hb nb
  have h3 := rung_lt a
  have h4 := rung_lt b
  unfold srung sgn
  generalize keyN a = ka at *
  generalize keyN b = kb at *
  generalize rung a = ra at *
  generalize rung b = rb at *
  generalize neg a = sa at *
  generalize neg b = sb at *
  clear na nb
  cases sa <;> cases sb <;> simp at h1 h2 ⊢ <;> omega
theorem key_num_lt_nan {a b : Nat} (ha : a < 18446744073709551616) (na : nanB a = false) (nb : nanB b = true) : keyN a < keyN b := by
  have h1 := keyN_num ha na
  rw [keyN_nan nb]
  have h3 := (nan_iff' ha).1 na
  generalize keyN a = ka at *
  generalize rung a = ra at *
  generalize neg a = sa at *
  clear na
  cases sa <;> simp at h1 <;> omega

/-- num.Float's word -/
def floatN (k : Nat) : Nat := if 9223372036854775808 ≤ k then k - 9223372036854775808 else 18446744073709551615 - k
def isKey (k : Nat) : Bool := floatN k == 9221120237041090561 || !nanB (floatN k)
theorem floatN_lt {k : Nat} (hk : k < 18446744073709551616) : floatN k < 18446744073709551616 := by unfold floatN; split <;> omega
theorem keyN_lt (b : Nat) : keyN b < 18446744073709551616 := by
  unfold keyN; split
  · omega
  · rename_i h; omega
theorem floatN_key {b : Nat} (hb : b < 18446744073709551616) : floatN (keyN b) = canonN b := by
  have hc : canonN b < 18446744073709551616 := by unfold canonN; split <;> omega
  unfold floatN keyN
  generalize canonN b = c at *
  by_cases h : 9223372036854775808 ≤ c
  · rw [if_pos h]; split <;> omega
  · rw [if_neg h]; split <;> omega
theorem isKey_key {b : Nat} (hb : b < 18446744073709551616) : isKey (keyN b) = true := by
  unfold isKey
  rw [floatN_key hb]; unfold canonN
  cases h : nanB b <;> simp [h]
theorem isKey_iff {k : Nat} (hk : k < 18446744073709551616) : isKey k = (keyN (floatN k) == k) := by
  have hf := floatN_lt hk
  unfold isKey
  rcases hn : nanB (floatN k) with _ | _
  · have h1 := keyN_num hf hn
    have h2 : neg (floatN k) = decide (9223372036854775808 ≤ floatN k) := rfl
    have h3 : rung (floatN k) = floatN k % 9223372036854775808 := rfl
    have h4 : floatN k = if 9223372036854775808 ≤ k then k - 9223372036854775808 else 18446744073709551615 - k := rfl
    have : keyN (floatN k) = k := by
      by_cases h5 : 9223372036854775808 ≤ k
      · rw [if_pos h5] at h4
        have h6 : ¬ 9223372036854775808 ≤ floatN k := by omega
        rw [h2] at h1; simp [h6] at h1; omega
      · rw [if_neg h5] at h4
        have h6 : 9223372036854775808 ≤ floatN k := by omega
        rw [h2] at h1; simp [h6] at h1; omega
    simp [this]
  · rw [keyN_nan hn]
    have h4 : floatN k = if 9223372036854775808 ≤ k then k - 9223372036854775808 else 18446744073709551615 - k := rfl
    have h7 := (nan_iff hf).1 hn
    have h3 : rung (floatN k) = floatN k % 9223372036854775808 := rfl
    rw [Bool.eq_iff_iff]
    simp
    split at h4 <;> omega
end Go.Fl
