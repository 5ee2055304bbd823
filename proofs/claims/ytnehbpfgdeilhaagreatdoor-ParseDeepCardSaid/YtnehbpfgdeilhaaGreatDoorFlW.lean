/- Plain facts: which words are int64 (no program) -/
import Derived.Test.YtnehbpfgdeilhaaGreatDoorFlJ
namespace Go.Fl
open Ieee
/-- within int64's range, as Go's comparisons say it -/
def inRng (b : Nat) : Bool := (FloatKind.f64.format.order b 14114281232179134464 == some .gt || FloatKind.f64.format.order b 14114281232179134464 == some .eq) && FloatKind.f64.format.order b 4890909195324358656 == some .lt

theorem svals : sval 14114281232179134464 = -9223372036854775808 * (S : Int) ∧ sval 4890909195324358656 = 9223372036854775808 * (S : Int) := by
  have e1 : ladder 4890909195324358656 = 9223372036854775808 * S := by
    obtain ⟨t, ht⟩ : ∃ t, t = 1085 := ⟨_, rfl⟩
    obtain ⟨q, hq⟩ : ∃ q, q = 1074 := ⟨_, rfl⟩
    have h := ladder_at t 4503599627370496 (by decide) (by decide)
    rw [show t * 4503599627370496 + 4503599627370496 = 4890909195324358656 from by omega] at h
    rw [h, S_eq q hq, show (4503599627370496 : Nat) = 2 ^ 52 from by decide, show (9223372036854775808 : Nat) = 2 ^ 63 from by decide, ← Nat.pow_add, ← Nat.pow_add, show 52 + t = 63 + q from by omega]
  have a1 : rung 14114281232179134464 = 4890909195324358656 := by decide
  have a2 : rung 4890909195324358656 = 4890909195324358656 := by decide
  have a3 : neg 14114281232179134464 = true := by decide
  have a4 : neg 4890909195324358656 = false := by decide
  unfold sval; rw [a1, a2, a3, a4, e1]
  unfold sgn
  simp [Int.neg_mul]

theorem inRng_facts {b : Nat} (hb : b < 18446744073709551616) (h : inRng b = true) : nanB b = false ∧ rung b < 9218868437227405312 ∧ -9223372036854775808 * (S : Int) ≤ sval b ∧ sval b < 9223372036854775808 * (S : Int) := by
  obtain ⟨s1, s2⟩ := svals
  unfold inRng at h
  rw [Bool.and_eq_true] at h
  have n1 : nanB 14114281232179134464 = false := by decide +kernel
  have n2 : nanB 4890909195324358656 = false := by decide +kernel
  have hn : nanB b = false := by
    rcases hn : nanB b with _ | _
    · rfl
    · have := order_nan_l (b := 4890909195324358656) hb ((nan_iff hb).1 hn)
      have h2 := h.2
      rw [show FloatKind.f64.format.order b 4890909195324358656 = double.order b 4890909195324358656 from rfl, this] at h2
      simp at h2
  have h1 := h.1; have h2 := h.2
  rw [order_sval hb (by decide) hn n1, s1] at h1
  rw [order_sval hb (by decide) hn n2, s2] at h2
  simp [compare_lt_iff] at h2
  simp [compare_gt_iff] at h1
  refine ⟨hn, ?_, by omega, h2⟩
  apply Nat.lt_of_not_le; intro hc
  have hr : rung b = 9218868437227405312 := by have := (nan_iff' hb).1 hn; omega
  have hl := @ladder_lt 4890909195324358656 9218868437227405312 (by decide)
  have e1 : (ladder 4890909195324358656 : Int) = 9223372036854775808 * (S : Int) := by
    have a2 : rung 4890909195324358656 = 4890909195324358656 := by decide
    have a4 : neg 4890909195324358656 = false := by decide
    unfold sval at s2; rw [a2, a4] at s2; simpa [sgn] using s2
  unfold sval at h1 h2
  rw [hr] at h1 h2
  unfold sgn at h1 h2
  generalize ladder 9218868437227405312 = p at *
  generalize ladder 4890909195324358656 = q at *
  cases neg b <;> (try simp only [if_true, Bool.false_eq_true, if_false] at h1 h2) <;> omega

def wholeB (b : Nat) : Bool := inRng b && !frac b

def ival (b : Nat) : Int := sgn (neg b) (part b)

def wholeI (b : Nat) : Int := if wholeB b then ival b else 0

theorem whole_facts {b : Nat} (hb : b < 18446744073709551616) (h : wholeB b = true) : sval b = ival b * (S : Int) ∧ -9223372036854775808 ≤ ival b ∧ ival b ≤ 9223372036854775807 ∧ Fit (ival b) := by
  unfold wholeB at h
  rw [Bool.and_eq_true] at h
  obtain ⟨h1, h2, h3, h4⟩ := inRng_facts hb h.1
  have hf : ladder (rung b) % S = 0 := by have := h.2; unfold frac at this; simpa using this
  have hl : ladder (rung b) = part b * S := by have := part_frac b; omega
  have e : sval b = ival b * (S : Int) := by unfold sval ival; rw [hl, sgn_mul]
  rw [e] at h3 h4
  have a1 := mul_S_lt.1 h4
  have a2 : -9223372036854775808 ≤ ival b := by
    apply Int.not_lt.1; intro hc
    have := mul_S_lt.2 hc
    omega
  refine ⟨e, a2, by omega, rung b, h2, ?_⟩
  have e3 : (ival b).natAbs = part b := by unfold ival sgn; cases neg b <;> simp
  rw [e3, hl]

theorem whole_eq {b : Nat} (hb : b < 18446744073709551616) (h : wholeB b = true) : (FloatKind.f64.format.order (fw (ival b)) b == some .eq) = true := by
  obtain ⟨h1, h2, h3, h4⟩ := whole_facts hb h
  have hn : nanB b = false := by unfold wholeB at h; rw [Bool.and_eq_true] at h; exact (inRng_facts hb h.1).1
  rw [order_sval (fw_facts h4).1 hb (nan_fw h4) hn, sval_fw h4, h1, compare_self]; rfl

theorem whole_conv {b : Nat} (hb : b < 18446744073709551616) (h : wholeB b = true) : floatToIntVal .f64 b .i64 = some (ival b) := by
  obtain ⟨h1, h2, h3, h4⟩ := whole_facts hb h
  have h' := h
  unfold wholeB at h'; rw [Bool.and_eq_true] at h'
  unfold floatToIntVal
  rw [toInt_eq hb (inRng_facts hb h'.1).2.1]
  have e1 : IntKind.i64.min = -9223372036854775808 := by decide
  have e2 : IntKind.i64.max = 9223372036854775807 := by decide
  simp only [e1, e2]
  rw [if_pos]; · rfl
  exact ⟨h2, h3⟩

theorem key_fw_lt {u v : Int} (hu : Fit u) (hv : Fit v) : keyN (fw u) < keyN (fw v) ↔ u < v := by
  obtain ⟨a1, a2, a3, a4⟩ := fw_facts hu
  obtain ⟨b1, b2, b3, b4⟩ := fw_facts hv
  rw [key_lt_num a1 b1 (nan_fw hu) (nan_fw hv), ← sval_lt, sval_fw hu, sval_fw hv, mul_S_lt]
  constructor
  · rintro (h | ⟨h1, h2, h3, h4⟩)
    · exact h
    · exfalso
      rw [h1, ladder_zero] at a4
      rw [a2] at h3
      have hS := S_pos
      have : u.natAbs = 0 := by
        rcases Nat.mul_eq_zero.1 a4.symm with h | h
        · exact h
        · omega
      simp at h3; omega
  · exact Or.inl

theorem key_fw_eq {u v : Int} (hu : Fit u) (hv : Fit v) : keyN (fw u) = keyN (fw v) ↔ u = v := by
  have h1 := key_fw_lt hu hv
  have h2 := key_fw_lt hv hu
  omega

end Go.Fl
