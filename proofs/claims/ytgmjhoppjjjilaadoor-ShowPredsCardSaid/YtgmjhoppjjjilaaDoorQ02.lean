/- FlG, FlH -/
import Derived.Test.YtgmjhoppjjjilaaDoorQ01

/- Plain facts on keys of floats (no program). -/
namespace Go.Fl
open Ieee
def srung (b : Nat) : Int := sgn (neg b) (rung b)
theorem ladder_pos {r : Nat} : 0 < ladder r ↔ 0 < r := by
  have := @ladder_lt_iff 0 r; rw [ladder_zero] at this; exact this
theorem sval_lt {a b : Nat} : sval a < sval b ↔ srung a < srung b := by
  have h1 := @ladder_lt_iff (rung a) (rung b)
  have h2 := @ladder_lt_iff (rung b) (rung a)
  have h3 := @ladder_pos (rung a)
  have h4 := @ladder_pos (rung b)
  unfold sval srung sgn
  generalize ladder (rung a) = la at *
  generalize ladder (rung b) = lb at *
  generalize rung a = ra at *
  generalize rung b = rb at *
  cases neg a <;> cases neg b <;> simp <;> omega
theorem sval_eq {a b : Nat} : sval a = sval b ↔ srung a = srung b := by
  have h1 := @sval_lt a b
  have h2 := @sval_lt b a
  omega
theorem rung_lt (b : Nat) : rung b < 9223372036854775808 := by unfold rung; omega
theorem word_of (b : Nat) (hb : b < 18446744073709551616) : b = (if neg b then 9223372036854775808 else 0) + rung b := by
  unfold rung neg; by_cases h : 9223372036854775808 ≤ b <;> simp [h] <;> omega
theorem keyN_nan {b : Nat} (h : nanB b = true) : keyN b = 18444492273895866369 := by simp [keyN, canonN, h]
theorem keyN_num {b : Nat} (hb : b < 18446744073709551616) (h : nanB b = false) : (keyN b : Int) = if neg b then 9223372036854775807 - (rung b : Int) else 9223372036854775808 + (rung b : Int) := by
  unfold keyN canonN; rw [h]
  have h1 : neg b = decide (9223372036854775808 ≤ b) := rfl
  have h2 : rung b = b % 9223372036854775808 := rfl
  by_cases h3 : 9223372036854775808 ≤ b <;> simp [h1, h3] <;> omega
theorem nan_iff {b : Nat} (hb : b < 18446744073709551616) : nanB b = true ↔ 9218868437227405312 < rung b := by rw [nanB_eq hb]; simp
theorem nan_iff' {b : Nat} (hb : b < 18446744073709551616) : nanB b = false ↔ rung b ≤ 9218868437227405312 := by rw [nanB_eq hb]; simp
/-- of numbers: what Go's < says -/
def ltB (a b : Nat) : Bool := FloatKind.f64.format.order a b == some .lt
def eqB (a b : Nat) : Bool := FloatKind.f64.format.order a b == some .eq
theorem ltB_eq {a b : Nat} (ha : a < 18446744073709551616) (hb : b < 18446744073709551616) (na : nanB a = false) (nb : nanB b = false) : ltB a b = decide (srung a < srung b) := by
  unfold ltB; show (double.order a b == some .lt) = _
  rw [order_eq ha hb ((nan_iff' ha).1 na) ((nan_iff' hb).1 nb), Bool.eq_iff_iff]
  simp [compare_lt_iff, sval_lt]
theorem eqB_eq {a b : Nat} (ha : a < 18446744073709551616) (hb : b < 18446744073709551616) (na : nanB a = false) (nb : nanB b = false) : eqB a b = decide (srung a = srung b) := by
  unfold eqB; show (double.order a b == some .eq) = _
  rw [order_eq ha hb ((nan_iff' ha).1 na) ((nan_iff' hb).1 nb), Bool.eq_iff_iff]
  simp only [beq_iff_eq, Option.some.injEq, compare_eq_iff, decide_eq_true_eq, sval_eq]
/-- the document's order: by sizes, -0 below 0, no number above all -/
theorem key_lt_num {a b : Nat} (ha : a < 18446744073709551616) (hb : b < 18446744073709551616) (na : nanB a = false) (nb : nanB b = false) :
    keyN a < keyN b ↔ srung a < srung b ∨ (rung a = 0 ∧ rung b = 0 ∧ neg a = true ∧ neg b = false) := by
  have h1 := keyN_num ha na
  have h2 := keyN_num hb nb
  have h3 := rung_lt a
  have h4 := rung_lt b
  unfold srung sgn
  generalize keyN a = ka at *
  generalize keyN b = kb at *
  generalize rung a = ra at *
  generalize rung b = rb at *
  generalize neg a = sa at *
  generalize neg b = sb at *
  clear na nb
  cases sa <;> cases sb <;> simp at h1 h2 ⊢ <;> omega
theorem key_num_lt_nan {a b : Nat} (ha : a < 18446744073709551616) (na : nanB a = false) (nb : nanB b = true) : keyN a < keyN b := by
  have h1 := keyN_num ha na
  rw [keyN_nan nb]
  have h3 := (nan_iff' ha).1 na
  generalize keyN a = ka at *
  generalize rung a = ra at *
  generalize neg a = sa at *
  clear na
  cases sa <;> simp at h1 <;> omega

/-- num.Float's word -/
def floatN (k : Nat) : Nat := if 9223372036854775808 ≤ k then k - 9223372036854775808 else 18446744073709551615 - k
def isKey (k : Nat) : Bool := floatN k == 9221120237041090561 || !nanB (floatN k)
theorem floatN_lt {k : Nat} (hk : k < 18446744073709551616) : floatN k < 18446744073709551616 := by unfold floatN; split <;> omega
theorem keyN_lt (b : Nat) : keyN b < 18446744073709551616 := by
  unfold keyN; split
  · omega
  · rename_i h; omega
theorem floatN_key {b : Nat} (hb : b < 18446744073709551616) : floatN (keyN b) = canonN b := by
  have hc : canonN b < 18446744073709551616 := by unfold canonN; split <;> omega
  unfold floatN keyN
  generalize canonN b = c at *
  by_cases h : 9223372036854775808 ≤ c
  · rw [if_pos h]; split <;> omega
  · rw [if_neg h]; split <;> omega
theorem isKey_key {b : Nat} (hb : b < 18446744073709551616) : isKey (keyN b) = true := by
  unfold isKey
  rw [floatN_key hb]; unfold canonN
  cases h : nanB b <;> simp [h]
theorem isKey_iff {k : Nat} (hk : k < 18446744073709551616) : isKey k = (keyN (floatN k) == k) := by
  have hf := floatN_lt hk
  unfold isKey
  rcases hn : nanB (floatN k) with _ | _
  · have h1 := keyN_num hf hn
    have h2 : neg (floatN k) = decide (9223372036854775808 ≤ floatN k) := rfl
    have h3 : rung (floatN k) = floatN k % 9223372036854775808 := rfl
    have h4 : floatN k = if 9223372036854775808 ≤ k then k - 9223372036854775808 else 18446744073709551615 - k := rfl
    have : keyN (floatN k) = k := by
      by_cases h5 : 9223372036854775808 ≤ k
      · rw [if_pos h5] at h4
        have h6 : ¬ 9223372036854775808 ≤ floatN k := by omega
        rw [h2] at h1; simp [h6] at h1; omega
      · rw [if_neg h5] at h4
        have h6 : 9223372036854775808 ≤ floatN k := by omega
        rw [h2] at h1; simp [h6] at h1; omega
    simp [this]
  · rw [keyN_nan hn]
    have h4 : floatN k = if 9223372036854775808 ≤ k then k - 9223372036854775808 else 18446744073709551615 - k := rfl
    have h7 := (nan_iff hf).1 hn
    have h3 : rung (floatN k) = floatN k % 9223372036854775808 := rfl
    rw [Bool.eq_iff_iff]
    simp
    split at h4 <;> omega
end Go.Fl

/- Plain facts on whole numbers as float64 words (no program): exact words, products, truncation and floor, an int64's greatest float below it. -/
namespace Go.Fl
open Ieee

def pw (n : Nat) : Nat := 2 ^ n
/-- the least parts of 1 -/
def S : Nat := pw 1074
theorem S_eq (n : Nat) (h : n = 1074) : S = 2 ^ n := by unfold S; rw [← h]; rfl
theorem S_pos : 0 < S := by
  obtain ⟨q, hq⟩ : ∃ q, q = 1074 := ⟨_, rfl⟩
  rw [S_eq q hq]; exact Nat.two_pow_pos q
theorem S_split (i j : Nat) (h : i + j = 1074) : S = 2 ^ i * 2 ^ j := by rw [← Nat.pow_add]; exact S_eq _ h
theorem nearest_whole (s : Bool) (p r : Nat) (hr : r ≤ 9218868437227405312) (h : p * S = ladder r) : double.nearest s p 0 = double.word s r := by
  obtain ⟨k, hk⟩ : ∃ k, k = 1074 := ⟨_, rfl⟩
  have := nearest_exact s p k r hr (by rw [← S_eq k hk]; exact h)
  rw [show ((k : Int) - 1074) = 0 from by omega] at this
  exact this
/-- float64(v) -/
def fw (v : Int) : Nat := FloatKind.f64.nearest v
theorem fw_eq (v : Int) : fw v = double.nearest (decide (v < 0)) v.natAbs 0 := rfl
/-- a whole number that a float is, just -/
def Fit (v : Int) : Prop := ∃ r, r < 9218868437227405312 ∧ v.natAbs * S = ladder r

theorem rung_of (x t : Nat) (hx : x ≤ 9007199254740992) (ht : 52 ≤ t) (ht' : t ≤ 1200) : ∃ r, r < 9218868437227405312 ∧ x * 2 ^ t = ladder r := by
  by_cases h0 : x = 0
  · subst h0; exact ⟨0, by decide, by rw [ladder_zero, Nat.zero_mul]⟩
  · have hlo : 2 ^ x.log2 ≤ x := Nat.log2_self_le h0
    have hhi : x < 2 ^ (x.log2 + 1) := Nat.lt_log2_self
    generalize x.log2 = L at *
    by_cases hL : L ≤ 52
    · have e1 : x * 2 ^ t = (x * 2 ^ (52 - L)) * 2 ^ (t - (52 - L)) := by rw [Nat.mul_assoc, ← Nat.pow_add, show 52 - L + (t - (52 - L)) = t from by omega]
      have h1 : 4503599627370496 ≤ x * 2 ^ (52 - L) := by
        have : 2 ^ L * 2 ^ (52 - L) ≤ x * 2 ^ (52 - L) := Nat.mul_le_mul_right _ hlo
        rw [← Nat.pow_add, show L + (52 - L) = 52 from by omega] at this
        exact this
      have h2 : x * 2 ^ (52 - L) < 9007199254740992 := by
        have : x * 2 ^ (52 - L) < 2 ^ (L + 1) * 2 ^ (52 - L) := Nat.mul_lt_mul_of_pos_right hhi (Nat.two_pow_pos _)
        rw [← Nat.pow_add, show L + 1 + (52 - L) = 53 from by omega] at this
        exact this
      refine ⟨(t - (52 - L)) * 4503599627370496 + x * 2 ^ (52 - L), ?_, ?_⟩
      · generalize x * 2 ^ (52 - L) = y at *; omega
      · rw [e1, ladder_at _ _ h1 (by omega)]
    · have hx' : x = 9007199254740992 := by
        have : (2 : Nat) ^ 53 ≤ 2 ^ L := Nat.pow_le_pow_right (by decide) (by omega)
        have e : (2 : Nat) ^ 53 = 9007199254740992 := by decide
        omega
      subst hx'
      exact ⟨t * 4503599627370496 + 9007199254740992, by omega, by rw [ladder_at _ _ (by decide) (by decide)]⟩
theorem fit_of (v : Int) (x t : Nat) (h : v.natAbs = x * 2 ^ t) (hx : x ≤ 9007199254740992) (ht : t ≤ 100) : Fit v := by
  obtain ⟨k, hk⟩ : ∃ k, k = 1074 := ⟨_, rfl⟩
  obtain ⟨r, h1, h2⟩ := rung_of x (t + k) hx (by omega) (by omega)
  refine ⟨r, h1, ?_⟩
  rw [h, ← h2, Nat.pow_add, ← Nat.mul_assoc, ← S_eq k hk]
theorem fit_small (v : Int) (h : v.natAbs ≤ 9007199254740992) : Fit v := fit_of v v.natAbs 0 (by simp) h (by decide)

theorem neg_word {s : Bool} {r : Nat} (hr : r < 9223372036854775808) : neg (double.word s r) = s ∧ rung (double.word s r) = r ∧ double.word s r < 18446744073709551616 := by
  rw [word_eq]; unfold neg rung
  cases s <;> simp <;> omega
theorem fw_word {v : Int} {r : Nat} (hr : r < 9218868437227405312) (h : v.natAbs * S = ladder r) : fw v = double.word (decide (v < 0)) r := by
  rw [fw_eq]
  exact nearest_whole _ _ _ (by omega) h
theorem fw_facts {v : Int} (h : Fit v) : fw v < 18446744073709551616 ∧ neg (fw v) = decide (v < 0) ∧ rung (fw v) < 9218868437227405312 ∧ ladder (rung (fw v)) = v.natAbs * S := by
  obtain ⟨r, h1, h2⟩ := h
  rw [fw_word h1 h2]
  obtain ⟨e1, e2, e3⟩ := neg_word (s := decide (v < 0)) (r := r) (by omega)
  exact ⟨e3, e1, by rw [e2]; exact h1, by rw [e2, h2]⟩
theorem word_eq_of {a b : Nat} (ha : a < 18446744073709551616) (hb : b < 18446744073709551616) (h1 : neg a = neg b) (h2 : rung a = rung b) : a = b := by
  rw [word_of a ha, word_of b hb, h1, h2]
/-- the one word of a whole number's size and sign -/
theorem fw_unique {b : Nat} {v : Int} (hb : b < 18446744073709551616) (h : Fit v) (h1 : neg b = decide (v < 0)) (h2 : ladder (rung b) = v.natAbs * S) : b = fw v := by
  obtain ⟨a1, a2, a3, a4⟩ := fw_facts h
  exact word_eq_of hb a1 (by rw [h1, a2]) (ladder_inj (by rw [h2, a4]))
theorem sgn_abs (v : Int) (m : Nat) : sgn (decide (v < 0)) (v.natAbs * m) = v * (m : Int) := by
  rw [sgn_mul]; congr 1; unfold sgn; by_cases h : v < 0 <;> simp [h] <;> omega
theorem sval_fw {v : Int} (h : Fit v) : sval (fw v) = v * (S : Int) := by
  obtain ⟨a1, a2, a3, a4⟩ := fw_facts h
  unfold sval; rw [a2, a4, sgn_abs]
theorem nan_fw {v : Int} (h : Fit v) : nanB (fw v) = false := by
  obtain ⟨a1, a2, a3, a4⟩ := fw_facts h
  exact (nan_iff' a1).2 (by omega)
theorem mul_S_lt {a b : Int} : a * (S : Int) < b * (S : Int) ↔ a < b := by
  have hp : (0 : Int) < (S : Int) := by have := S_pos; omega
  constructor
  · intro h; exact Int.lt_of_mul_lt_mul_right h (by omega)
  · intro h; exact Int.mul_lt_mul_of_pos_right h hp
theorem mul_S_inj {a b : Int} (h : a * (S : Int) = b * (S : Int)) : a = b := by
  have hp : (S : Int) ≠ 0 := by have := S_pos; omega
  exact Int.eq_of_mul_eq_mul_right hp h

/-! ### orders against whole numbers -/
theorem order_sval {a b : Nat} (ha : a < 18446744073709551616) (hb : b < 18446744073709551616) (na : nanB a = false) (nb : nanB b = false) :
    FloatKind.f64.format.order a b = some (compare (sval a) (sval b)) := order_eq ha hb ((nan_iff' ha).1 na) ((nan_iff' hb).1 nb)
theorem order_fw {u v : Int} (hu : Fit u) (hv : Fit v) : FloatKind.f64.format.order (fw u) (fw v) = some (compare u v) := by
  rw [order_sval (fw_facts hu).1 (fw_facts hv).1 (nan_fw hu) (nan_fw hv), sval_fw hu, sval_fw hv, compare_mul _ _ _ S_pos]

/-! ### the whole part -/
theorem cut_low (s : Bool) (n d : Nat) : Toward.zero.cut s n d = n / 2 ^ d ∧ Toward.down.cut s n d = n / 2 ^ d + (s && n % 2 ^ d != 0).toNat := by
  unfold Toward.cut
  simp only [Nat.shiftLeft_eq, Nat.one_mul]
  by_cases h : d ≤ n.log2 + 2
  · rw [Nat.min_eq_left h]; simp
  · rw [Nat.min_eq_right (by omega)]
    have hn : n < 2 ^ (n.log2 + 1) := Nat.lt_log2_self
    have h1 : n < 2 ^ (n.log2 + 2) := Nat.lt_trans hn (Nat.pow_lt_pow_right (by decide) (by omega))
    have h2 : n < 2 ^ d := Nat.lt_trans h1 (Nat.pow_lt_pow_right (by decide) (by omega))
    rw [Nat.div_eq_of_lt h1, Nat.div_eq_of_lt h2, Nat.mod_eq_of_lt h1, Nat.mod_eq_of_lt h2]; simp
/-- the whole part of a word's size, and is anything left over? -/
def part (b : Nat) : Nat := ladder (rung b) / S
def frac (b : Nat) : Bool := ladder (rung b) % S != 0
theorem part_frac (b : Nat) : ladder (rung b) = part b * S + ladder (rung b) % S := by
  unfold part; rw [Nat.mul_comm]; exact (Nat.div_add_mod _ _).symm
theorem integral_eq {b : Nat} (hb : b < 18446744073709551616) (h : rung b < 9218868437227405312) :
    (double.read b).integral .zero = .number (neg b) (part b) 0 ∧ (double.read b).integral .down = .number (neg b) (part b + (neg b && frac b).toNat) 0 := by
  obtain ⟨m, k, e1, e2, e3⟩ := read_fin hb h
  rw [e1]
  unfold part frac
  rw [e2]
  simp only [Datum.integral, Nat.shiftLeft_eq]
  obtain ⟨c1, c2⟩ := cut_low (neg b) (m * 2 ^ ((k : Int) - 1074).toNat) (-((k : Int) - 1074)).toNat
  rw [c1, c2]
  by_cases hk : 1074 ≤ k
  · have a1 : ((k : Int) - 1074).toNat = k - 1074 := by omega
    have a2 : (-((k : Int) - 1074)).toNat = 0 := by omega
    have a3 : m * 2 ^ k = m * 2 ^ (k - 1074) * S := by
      obtain ⟨q, hq⟩ : ∃ q, q = 1074 := ⟨_, rfl⟩
      rw [S_eq q hq, Nat.mul_assoc, ← Nat.pow_add, show k - 1074 + q = k from by omega]
    rw [a1, a2, a3, Nat.mul_div_cancel _ S_pos, Nat.mul_mod_left]
    simp [Nat.mod_one]
  · obtain ⟨d, hd⟩ : ∃ d, k + d = 1074 := ⟨1074 - k, by omega⟩
    have a1 : ((k : Int) - 1074).toNat = 0 := by omega
    have a2 : (-((k : Int) - 1074)).toNat = d := by omega
    have a3 : S = 2 ^ d * 2 ^ k := S_split d k (by omega)
    rw [a1, a2, a3, Nat.pow_zero, Nat.mul_one, Nat.mul_div_mul_right _ _ (Nat.two_pow_pos k), Nat.mul_mod_mul_right]
    have : (m % 2 ^ d * 2 ^ k != 0) = (m % 2 ^ d != 0) := by
      have hp := Nat.two_pow_pos k
      generalize 2 ^ k = p at hp ⊢
      generalize m % 2 ^ d = q
      rw [Bool.eq_iff_iff]; simp only [bne_iff_ne, ne_eq, Nat.mul_eq_zero]; omega
    rw [this]; exact ⟨rfl, rfl⟩
theorem toInt_eq {b : Nat} (hb : b < 18446744073709551616) (h : rung b < 9218868437227405312) : (FloatKind.f64.decode b).toInt .zero = some (sgn (neg b) (part b)) := by
  show (double.read b).toInt .zero = _
  unfold Datum.toInt
  rw [(integral_eq hb h).1]
  simp only [signed_eq]; simp
/-- the whole part and the one above it are floats again -/
theorem part_rung {b : Nat} (hb : b < 18446744073709551616) (h : rung b < 9218868437227405312) :
    (∃ r, r < 9218868437227405312 ∧ part b * S = ladder r) ∧ (frac b = true → ∃ r, r < 9218868437227405312 ∧ (part b + 1) * S = ladder r) := by
  obtain ⟨m, k, e1, e2, e3⟩ := read_fin hb h
  by_cases hk : 1074 ≤ k
  · have a3 : m * 2 ^ k = m * 2 ^ (k - 1074) * S := by
      obtain ⟨q, hq⟩ : ∃ q, q = 1074 := ⟨_, rfl⟩
      rw [S_eq q hq, Nat.mul_assoc, ← Nat.pow_add, show k - 1074 + q = k from by omega]
    have hf : ladder (rung b) % S = 0 := by rw [e2, a3, Nat.mul_mod_left]
    refine ⟨⟨rung b, h, ?_⟩, fun hc => ?_⟩
    · have := part_frac b; omega
    · unfold frac at hc; rw [hf] at hc; exact absurd hc (by simp)
  · obtain ⟨d, hd⟩ : ∃ d, k + d = 1074 ∧ 0 < d := ⟨1074 - k, by omega⟩
    have a3 : S = 2 ^ d * 2 ^ k := S_split d k (by omega)
    have hp : part b ≤ m / 2 := by
      unfold part; rw [e2, a3, Nat.mul_div_mul_right _ _ (Nat.two_pow_pos k)]
      have h2 : 2 ≤ 2 ^ d := by
        have : 2 ^ 1 ≤ 2 ^ d := Nat.pow_le_pow_right (by decide) hd.2
        simpa using this
      exact Nat.div_le_div_left h2 (by decide)
    obtain ⟨q, hq⟩ : ∃ q, q = 1074 := ⟨_, rfl⟩
    rw [S_eq q hq]
    exact ⟨rung_of (part b) q (by omega) (by omega) (by omega), fun _ => rung_of (part b + 1) q (by omega) (by omega) (by omega)⟩
/-- math.Trunc and math.Floor of a finite word -/
def truncW (b : Nat) : Nat := FloatKind.f64.encode ((FloatKind.f64.decode b).integral .zero)
def floorW (b : Nat) : Nat := FloatKind.f64.encode ((FloatKind.f64.decode b).integral .down)
theorem write_whole (s : Bool) (p r : Nat) (hr : r < 9218868437227405312) (h : p * S = ladder r) : double.write (.number s p 0) = double.word s r := by
  exact nearest_whole s p r (by omega) h
theorem trunc_eq {b : Nat} (hb : b < 18446744073709551616) (h : rung b < 9218868437227405312) : truncW b < 18446744073709551616 ∧ nanB (truncW b) = false ∧ eqB b (truncW b) = !frac b := by
  obtain ⟨r, hr, hl⟩ := (part_rung hb h).1
  have e : truncW b = double.word (neg b) r := by
    show double.write ((double.read b).integral .zero) = _
    rw [(integral_eq hb h).1]; exact write_whole _ _ _ hr hl
  obtain ⟨e1, e2, e3⟩ := neg_word (s := neg b) (r := r) (by omega)
  rw [e]
  have n1 : nanB (double.word (neg b) r) = false := (nan_iff' e3).2 (by omega)
  refine ⟨e3, n1, ?_⟩
  rw [eqB_eq hb e3 ((nan_iff' hb).2 (by omega)) n1]
  have hpf := part_frac b
  have : frac b = decide (rung b ≠ r) := by
    unfold frac
    rw [Bool.eq_iff_iff]; simp only [bne_iff_ne, decide_eq_true_eq]
    constructor
    · intro hne he; rw [← he] at hl; omega
    · intro hne he
      exact hne (ladder_inj (by rw [← hl]; omega))
  rw [this]
  unfold srung; rw [e1, e2]; unfold sgn
  rw [Bool.eq_iff_iff]
  cases neg b <;> simp <;> omega
theorem floor_eq {b : Nat} (hb : b < 18446744073709551616) (h : rung b < 9218868437227405312) : floorW b < 18446744073709551616 ∧ nanB (floorW b) = false ∧ eqB (floorW b) b = !frac b := by
  have hex : ∃ r, r < 9218868437227405312 ∧ (part b + (neg b && frac b).toNat) * S = ladder r := by
    rcases hf : (neg b && frac b) with _ | _
    · simpa using (part_rung hb h).1
    · rw [Bool.and_eq_true] at hf; simpa using (part_rung hb h).2 hf.2
  obtain ⟨r, hr, hl⟩ := hex
  have e : floorW b = double.word (neg b) r := by
    show double.write ((double.read b).integral .down) = _
    rw [(integral_eq hb h).2]; exact write_whole _ _ _ hr hl
  obtain ⟨e1, e2, e3⟩ := neg_word (s := neg b) (r := r) (by omega)
  rw [e]
  have n1 : nanB (double.word (neg b) r) = false := (nan_iff' e3).2 (by omega)
  refine ⟨e3, n1, ?_⟩
  rw [eqB_eq e3 hb n1 ((nan_iff' hb).2 (by omega))]
  have hpf := part_frac b
  have hml : ladder (rung b) % S < S := Nat.mod_lt _ S_pos
  have : frac b = decide (rung b ≠ r) := by
    rw [Bool.eq_iff_iff]; simp only [decide_eq_true_eq]
    constructor
    · intro hne he
      rw [← he, hne, Nat.add_mul] at hl
      have hne' : ladder (rung b) % S ≠ 0 := by unfold frac at hne; simpa using hne
      cases hs : neg b <;> rw [hs] at hl <;> simp at hl <;> omega
    · intro hne
      rcases hf : frac b with _ | _
      · exfalso; apply hne
        rw [hf] at hl; simp at hl
        have hz : ladder (rung b) % S = 0 := by unfold frac at hf; simpa using hf
        exact ladder_inj (by rw [← hl]; omega)
      · rfl
  rw [this]
  unfold srung; rw [e1, e2]; unfold sgn
  rw [Bool.eq_iff_iff]
  cases neg b <;> simp <;> omega
end Go.Fl
