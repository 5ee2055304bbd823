/- FlF -/
import GoSem.Core.Float

/- Plain facts on the words of float64 (no program): a word as a signed rung; its size as a whole number of least parts; order; whole numbers as words. -/
namespace Go.Fl
open Ieee

/-- how many least parts a rung is: rungs 0, 1, .. upwards -/
def ladder (r : Nat) : Nat := if r < 4503599627370496 then r else (4503599627370496 + r % 4503599627370496) * 2 ^ (r / 4503599627370496 - 1)

theorem ladder_lo {r : Nat} (h : r < 4503599627370496) : ladder r = r := by unfold ladder; rw [if_pos h]
theorem ladder_at (t x : Nat) (h1 : 4503599627370496 ≤ x) (h2 : x ≤ 9007199254740992) : ladder (t * 4503599627370496 + x) = x * 2 ^ t := by
  unfold ladder
  rw [if_neg (by omega)]
  by_cases h : x = 9007199254740992
  · subst h
    have e1 : (t * 4503599627370496 + 9007199254740992) % 4503599627370496 = 0 := by omega
    have e2 : (t * 4503599627370496 + 9007199254740992) / 4503599627370496 - 1 = t + 1 := by omega
    rw [e1, e2, Nat.pow_succ]
    generalize 2 ^ t = p
    omega
  · have e1 : (t * 4503599627370496 + x) % 4503599627370496 = x - 4503599627370496 := by omega
    have e2 : (t * 4503599627370496 + x) / 4503599627370496 - 1 = t := by omega
    rw [e1, e2, show 4503599627370496 + (x - 4503599627370496) = x from by omega]
theorem ladder_small {r : Nat} (h : r ≤ 9007199254740992) : ladder r = r := by
  by_cases h' : r < 4503599627370496
  · exact ladder_lo h'
  · have := ladder_at 0 r (by omega) h
    simpa using this
/-- every rung from the first normal one on -/
theorem rung_form {r : Nat} (h : 4503599627370496 ≤ r) : ∃ t x, r = t * 4503599627370496 + x ∧ 4503599627370496 ≤ x ∧ x < 9007199254740992 ∧ t = r / 4503599627370496 - 1 ∧ x = 4503599627370496 + r % 4503599627370496 :=
  ⟨r / 4503599627370496 - 1, 4503599627370496 + r % 4503599627370496, by omega, by omega, by omega, rfl, rfl⟩
theorem ladder_step (r : Nat) : ladder r < ladder (r + 1) := by
  by_cases h : r < 4503599627370496
  · rw [ladder_small (by omega), ladder_small (by omega)]; omega
  · obtain ⟨t, x, rfl, h1, h2, -, -⟩ := rung_form (Nat.le_of_not_lt h)
    rw [ladder_at t x h1 (by omega), Nat.add_assoc, ladder_at t (x + 1) (by omega) (by omega)]
    exact Nat.mul_lt_mul_of_pos_right (by omega) (Nat.two_pow_pos t)
theorem ladder_lt {r s : Nat} (h : r < s) : ladder r < ladder s := by
  induction s with
  | zero => omega
  | succ s ih =>
    by_cases e : r = s
    · subst e; exact ladder_step r
    · exact Nat.lt_trans (ih (by omega)) (ladder_step s)
theorem ladder_lt_iff {r s : Nat} : ladder r < ladder s ↔ r < s := by
  constructor
  · intro h
    rcases Nat.lt_trichotomy r s with h' | h' | h'
    · exact h'
    · subst h'; omega
    · have := ladder_lt h'; omega
  · exact ladder_lt
theorem ladder_inj {r s : Nat} (h : ladder r = ladder s) : r = s := by
  rcases Nat.lt_trichotomy r s with h' | h' | h'
  · have := ladder_lt h'; omega
  · exact h'
  · have := ladder_lt h'; omega
theorem ladder_zero : ladder 0 = 0 := ladder_lo (by decide)

def neg (b : Nat) : Bool := decide (9223372036854775808 ≤ b)
def rung (b : Nat) : Nat := b % 9223372036854775808
def sgn (s : Bool) (m : Nat) : Int := if s then -(m : Int) else m
/-- a word's size in least parts, with its sign -/
def sval (b : Nat) : Int := sgn (neg b) (ladder (rung b))

theorem read_eq (b : Nat) (hb : b < 18446744073709551616) : double.read b =
    if rung b < 4503599627370496 then .number (neg b) (rung b) (-1074)
    else if rung b < 9218868437227405312 then .number (neg b) (4503599627370496 + rung b % 4503599627370496) (-1074 + (rung b / 4503599627370496 - 1 : Nat))
    else if rung b = 9218868437227405312 then .infinity (neg b)
    else .nan (neg b) (rung b - 9218868437227405312) := by
  have e1 : double.signWeight = 9223372036854775808 := by decide
  have e2 : double.binade = 4503599627370496 := by decide
  have e3 : double.infRung = 9218868437227405312 := by decide
  have e4 : double.leastPlace = -1074 := by decide
  have e5 : (b / 9223372036854775808 % 2 == 1) = neg b := by
    unfold neg; rw [Bool.eq_iff_iff]; simp; omega
  unfold Format.read
  simp only [e1, e2, e3, e4, e5]
  rfl
theorem read_fin {b : Nat} (hb : b < 18446744073709551616) (h : rung b < 9218868437227405312) :
    ∃ m k : Nat, double.read b = .number (neg b) m ((k : Int) - 1074) ∧ ladder (rung b) = m * 2 ^ k ∧ m < 9007199254740992 := by
  rw [read_eq b hb]
  by_cases h1 : rung b < 4503599627370496
  · rw [if_pos h1]
    exact ⟨rung b, 0, rfl, by rw [ladder_lo h1]; simp, by omega⟩
  · rw [if_neg h1, if_pos h]
    obtain ⟨t, x, e, h2, h3, ht, hx⟩ := rung_form (Nat.le_of_not_lt h1)
    refine ⟨x, t, ?_, ?_, h3⟩
    · rw [← hx, ← ht, show (-1074 : Int) + (t : Nat) = (t : Int) - 1074 from by omega]
    · rw [e, ladder_at t x h2 (by omega)]
theorem read_inf {b : Nat} (hb : b < 18446744073709551616) (h : rung b = 9218868437227405312) : double.read b = .infinity (neg b) := by
  rw [read_eq b hb, h]; rfl
theorem read_nan {b : Nat} (hb : b < 18446744073709551616) (h : 9218868437227405312 < rung b) : double.read b = .nan (neg b) (rung b - 9218868437227405312) := by
  rw [read_eq b hb, if_neg (by omega), if_neg (by omega), if_neg (by omega)]

theorem signed_eq (s : Bool) (m u : Nat) : signed s m u = sgn s (m * 2 ^ u) := by
  unfold signed sgn; rw [Nat.shiftLeft_eq]
theorem sgn_mul (s : Bool) (m p : Nat) : sgn s (m * p) = sgn s m * (p : Int) := by
  unfold sgn; cases s <;> simp [Int.neg_mul]
theorem compare_lt {x y : Int} (h : x < y) : compare x y = .lt := by simp only [compare, compareOfLessAndEq]; rw [if_pos h]
theorem compare_gt {x y : Int} (h : y < x) : compare x y = .gt := by simp only [compare, compareOfLessAndEq]; rw [if_neg (by omega), if_neg (by omega)]
theorem compare_self (x : Int) : compare x x = .eq := by simp [compare, compareOfLessAndEq]
theorem compare_eq_iff {x y : Int} : (compare x y = .eq) ↔ x = y := by
  constructor
  · intro h
    rcases Int.lt_trichotomy x y with h' | h' | h'
    · rw [compare_lt h'] at h; cases h
    · exact h'
    · rw [compare_gt h'] at h; cases h
  · rintro rfl; exact compare_self x
theorem compare_lt_iff {x y : Int} : (compare x y = .lt) ↔ x < y := by
  constructor
  · intro h
    rcases Int.lt_trichotomy x y with h' | h' | h'
    · exact h'
    · subst h'; rw [compare_self] at h; cases h
    · rw [compare_gt h'] at h; cases h
  · exact compare_lt
theorem compare_gt_iff {x y : Int} : (compare x y = .gt) ↔ y < x := by
  constructor
  · intro h
    rcases Int.lt_trichotomy x y with h' | h' | h'
    · rw [compare_lt h'] at h; cases h
    · subst h'; rw [compare_self] at h; cases h
    · exact h'
  · exact compare_gt

theorem compare_mul (x y : Int) (p : Nat) (hp : 0 < p) : compare (x * (p : Int)) (y * (p : Int)) = compare x y := by
  have hp' : (0 : Int) < p := by omega
  rcases Int.lt_trichotomy x y with h | h | h
  · rw [compare_lt h, compare_lt (Int.mul_lt_mul_of_pos_right h hp')]
  · subst h; rw [compare_self, compare_self]
  · rw [compare_gt h, compare_gt (Int.mul_lt_mul_of_pos_right h hp')]
theorem order_num (s t : Bool) (m n k j : Nat) : Datum.order (.number s m ((k : Int) - 1074)) (.number t n ((j : Int) - 1074)) = some (compare (sgn s (m * 2 ^ k)) (sgn t (n * 2 ^ j))) := by
  simp only [Datum.order, signed_eq]
  congr 1
  have hk : ((k : Int) - 1074 - min ((k : Int) - 1074) ((j : Int) - 1074)).toNat = k - min k j := by omega
  have hj : ((j : Int) - 1074 - min ((k : Int) - 1074) ((j : Int) - 1074)).toNat = j - min k j := by omega
  rw [hk, hj, ← compare_mul _ _ (2 ^ min k j) (Nat.two_pow_pos _), ← sgn_mul, ← sgn_mul, Nat.mul_assoc, Nat.mul_assoc, ← Nat.pow_add, ← Nat.pow_add,
    show k - min k j + min k j = k from by omega, show j - min k j + min k j = j from by omega]

/-- Two words that are numbers or infinite are ordered by their sizes in least parts. -/
theorem order_eq {a b : Nat} (ha : a < 18446744073709551616) (hb : b < 18446744073709551616) (na : rung a ≤ 9218868437227405312) (nb : rung b ≤ 9218868437227405312) :
    double.order a b = some (compare (sval a) (sval b)) := by
  unfold Format.order
  by_cases fa : rung a < 9218868437227405312
  · obtain ⟨m, k, e1, e2, -⟩ := read_fin ha fa
    by_cases fb : rung b < 9218868437227405312
    · obtain ⟨n, j, e3, e4, -⟩ := read_fin hb fb
      rw [e1, e3, order_num]; unfold sval; rw [e2, e4]
    · have hl := ladder_lt fa
      rw [e1, read_inf hb (by omega)]
      unfold sval sgn; rw [show rung b = 9218868437227405312 from by omega]
      generalize ladder 9218868437227405312 = p at *
      generalize ladder (rung a) = q at *
      simp only [Datum.order]
      cases neg b <;> cases neg a <;> simp <;> first | exact (compare_lt (by omega)).symm | exact (compare_gt (by omega)).symm
  · by_cases fb : rung b < 9218868437227405312
    · obtain ⟨n, j, e3, e4, -⟩ := read_fin hb fb
      have hl := ladder_lt fb
      rw [e3, read_inf ha (by omega)]
      unfold sval sgn; rw [show rung a = 9218868437227405312 from by omega]
      generalize ladder 9218868437227405312 = p at *
      generalize ladder (rung b) = q at *
      simp only [Datum.order]
      cases neg b <;> cases neg a <;> simp <;> first | exact (compare_lt (by omega)).symm | exact (compare_gt (by omega)).symm
    · have hl := @ladder_lt 0 9218868437227405312 (by decide)
      rw [read_inf ha (by omega), read_inf hb (by omega)]
      unfold sval sgn; rw [show rung a = 9218868437227405312 from by omega, show rung b = 9218868437227405312 from by omega]
      rw [ladder_zero] at hl
      generalize ladder 9218868437227405312 = p at *
      simp only [Datum.order]
      cases neg b <;> cases neg a <;> simp <;> first | exact (compare_lt (by omega)).symm | exact (compare_gt (by omega)).symm | exact (compare_self _).symm | rfl
theorem order_nan_l {a b : Nat} (ha : a < 18446744073709551616) (na : 9218868437227405312 < rung a) : double.order a b = none := by
  unfold Format.order; rw [read_nan ha na]; rfl
theorem order_nan_r {a b : Nat} (hb : b < 18446744073709551616) (nb : 9218868437227405312 < rung b) : double.order a b = none := by
  unfold Format.order; rw [read_nan hb nb]; cases double.read a <;> rfl

def nanB (b : Nat) : Bool := FloatKind.f64.format.order b b != some .eq
theorem nanB_eq {b : Nat} (hb : b < 18446744073709551616) : nanB b = decide (9218868437227405312 < rung b) := by
  unfold nanB
  show (double.order b b != some .eq) = _
  by_cases h : 9218868437227405312 < rung b
  · rw [order_nan_l hb h]; simp [h]
  · rw [order_eq hb hb (by omega) (by omega), compare_self]; simp [h]
def canonN (b : Nat) : Nat := if nanB b then 9221120237041090561 else b
def keyN (b : Nat) : Nat := if 9223372036854775808 ≤ canonN b then 18446744073709551615 - canonN b else canonN b + 9223372036854775808

/-! ### The nearest word to a size that a word has is that word -/
theorem log2_pos_lo {m : Nat} (h : m ≠ 0) : 2 ^ m.log2 ≤ m := Nat.log2_self_le h
theorem cut_exact (s : Bool) (x d : Nat) : Toward.even.cut s (x * 2 ^ d) d = x := by
  have hlow : ∀ e, e ≤ d → (x * 2 ^ d) % 2 ^ e = 0 := by
    intro e he
    obtain ⟨c, rfl⟩ : ∃ c, d = c + e := ⟨d - e, by omega⟩
    rw [Nat.pow_add, ← Nat.mul_assoc]; exact Nat.mul_mod_left _ _
  unfold Toward.cut
  simp only [Nat.shiftLeft_eq, Nat.one_mul]
  by_cases hx : x = 0
  · subst hx; simp
  · have hmin : min d ((x * 2 ^ d).log2 + 2) = d := by
      have h1 : 2 ^ d ≤ x * 2 ^ d := Nat.le_mul_of_pos_left _ (by omega)
      have h2 : x * 2 ^ d < 2 ^ ((x * 2 ^ d).log2 + 1) := Nat.lt_log2_self
      have h3 : 2 ^ d < 2 ^ ((x * 2 ^ d).log2 + 1) := Nat.lt_of_le_of_lt h1 h2
      have h4 := (Nat.pow_lt_pow_iff_right (by decide : 1 < 2)).1 h3
      omega
    rw [hmin, hlow d (Nat.le_refl _), Nat.mul_div_cancel _ (Nat.two_pow_pos d)]
    simp

theorem word_eq (s : Bool) (r : Nat) : double.word s r = if s then 9223372036854775808 + r else r := by
  unfold Format.word; rw [show double.signWeight = 9223372036854775808 from by decide]
theorem nearest_exact (s : Bool) (m k r : Nat) (hr : r ≤ 9218868437227405312) (h : m * 2 ^ k = ladder r) : double.nearest s m ((k : Int) - 1074) = double.word s r := by
  have e1 : double.infRung = 9218868437227405312 := by decide
  have e2 : double.binade = 4503599627370496 := by decide
  have e4 : double.leastPlace = -1074 := by decide
  have e5 : (double.fractionBits : Int) = 52 := by decide
  unfold Format.nearest
  by_cases h0 : m = 0
  · rw [if_pos h0]
    subst h0
    rw [Nat.zero_mul, ← ladder_zero] at h
    rw [← ladder_inj h]
  · rw [if_neg h0]
    simp only [e1, e2, e4, e5]
    have hlo := log2_pos_lo h0
    have hhi : m < 2 ^ (m.log2 + 1) := Nat.lt_log2_self
    congr 1
    generalize m.log2 = L at *
    by_cases ht : k + L ≤ 52
    · have em : max ((k : Int) - 1074 + (L : Int) - 52) (-1074) = -1074 := by omega
      rw [em]
      have hs1 : ((k : Int) - 1074 - -1074).toNat = k := by omega
      have hs2 : (-1074 - ((k : Int) - 1074)).toNat = 0 := by omega
      have hs3 : ((-1074 : Int) - -1074).toNat = 0 := by omega
      rw [hs1, hs2, hs3, Nat.shiftLeft_eq]
      have := cut_exact s (m * 2 ^ k) 0
      rw [Nat.pow_zero, Nat.mul_one] at this
      rw [this, Nat.zero_mul, Nat.zero_add]
      have hV : m * 2 ^ k < 9007199254740992 := by
        have a1 : m * 2 ^ k < 2 ^ (L + 1) * 2 ^ k := Nat.mul_lt_mul_of_pos_right hhi (Nat.two_pow_pos k)
        rw [← Nat.pow_add] at a1
        have a2 : 2 ^ (L + 1 + k) ≤ 2 ^ 53 := Nat.pow_le_pow_right (by decide) (by omega)
        have : (2 : Nat) ^ 53 = 9007199254740992 := by decide
        omega
      have hrV : r = m * 2 ^ k := ladder_inj (by rw [← h, ladder_small (by omega)])
      rw [← hrV]; exact Nat.min_eq_left hr
    · obtain ⟨t, ht'⟩ : ∃ t, k + L = 52 + t ∧ 0 < t := ⟨k + L - 52, by omega⟩
      have em : max ((k : Int) - 1074 + (L : Int) - 52) (-1074) = (t : Int) - 1074 := by omega
      rw [em]
      have hs3 : ((t : Int) - 1074 - -1074).toNat = t := by omega
      rw [hs3]
      -- the rung has the form t', x'
      have hV1 : 2 ^ (52 + t) ≤ m * 2 ^ k := by
        rw [← ht'.1, Nat.add_comm, Nat.pow_add]; exact Nat.mul_le_mul_right _ hlo
      have hV2 : m * 2 ^ k < 2 ^ (53 + t) := by
        rw [show 53 + t = (L + 1) + k from by omega, Nat.pow_add]; exact Nat.mul_lt_mul_of_pos_right hhi (Nat.two_pow_pos k)
      have h52 : (4503599627370496 : Nat) = 2 ^ 52 := by decide
      have h53 : (9007199254740992 : Nat) = 2 ^ 53 := by decide
      have hrlo : 4503599627370496 ≤ r := by
        apply Nat.le_of_not_lt; intro hc
        rw [ladder_lo hc] at h
        have : 2 ^ 52 ≤ 2 ^ (52 + t) := Nat.pow_le_pow_right (by decide) (by omega)
        omega
      obtain ⟨t', x, er, hx1, hx2, -, -⟩ := rung_form hrlo
      rw [er, ladder_at t' x hx1 (by omega)] at h
      have htt : t' = t := by
        rcases Nat.lt_trichotomy t' t with hh | hh | hh
        · have b1 : x * 2 ^ t' < 2 ^ 53 * 2 ^ t' := Nat.mul_lt_mul_of_pos_right (by omega) (Nat.two_pow_pos _)
          have b2 : 2 ^ 53 * 2 ^ t' ≤ 2 ^ (52 + t) := by rw [← Nat.pow_add]; exact Nat.pow_le_pow_right (by decide) (by omega)
          omega
        · exact hh
        · have b1 : 2 ^ 52 * 2 ^ t' ≤ x * 2 ^ t' := Nat.mul_le_mul_right _ (by omega)
          have b2 : 2 ^ (53 + t) ≤ 2 ^ 52 * 2 ^ t' := by rw [← Nat.pow_add]; exact Nat.pow_le_pow_right (by decide) (by omega)
          omega
      subst htt
      have hcut : Toward.even.cut s (m <<< ((k : Int) - 1074 - ((t' : Int) - 1074)).toNat) ((t' : Int) - 1074 - ((k : Int) - 1074)).toNat = x := by
        rw [Nat.shiftLeft_eq]
        by_cases hL : 52 ≤ L
        · have c1 : ((k : Int) - 1074 - ((t' : Int) - 1074)).toNat = 0 := by omega
          have c2 : ((t' : Int) - 1074 - ((k : Int) - 1074)).toNat = L - 52 := by omega
          rw [c1, c2]
          have hm : m = x * 2 ^ (L - 52) := by
            have : m * 2 ^ k = x * 2 ^ (L - 52) * 2 ^ k := by rw [Nat.mul_assoc, ← Nat.pow_add, show L - 52 + k = t' from by omega]; exact h
            exact Nat.eq_of_mul_eq_mul_right (Nat.two_pow_pos k) this
          rw [Nat.pow_zero, Nat.mul_one]
          conv => lhs; rw [hm]
          exact cut_exact s x (L - 52)
        · have c1 : ((k : Int) - 1074 - ((t' : Int) - 1074)).toNat = 52 - L := by omega
          have c2 : ((t' : Int) - 1074 - ((k : Int) - 1074)).toNat = 0 := by omega
          rw [c1, c2]
          have hm : m * 2 ^ (52 - L) = x := by
            have : m * 2 ^ (52 - L) * 2 ^ t' = x * 2 ^ t' := by rw [Nat.mul_assoc, ← Nat.pow_add, show 52 - L + t' = k from by omega]; exact h
            exact Nat.eq_of_mul_eq_mul_right (Nat.two_pow_pos t') this
          rw [hm]
          have := cut_exact s x 0
          rwa [Nat.pow_zero, Nat.mul_one] at this
      rw [hcut, ← er]
      exact Nat.min_eq_left hr
end Go.Fl
