/- FlJ -/
import Derived.Test.YtgmjhoppjjjilaaDoorQ02
import Derived.Laws.FloatArith

/- Plain facts: the greatest float that is not above an int64 (no program). -/
namespace Go.Fl
open Ieee

def sh (n : Int) : Nat := n.natAbs.log2 - 52
/-- the greatest float that is not above n -/
def flo (n : Int) : Int := n / (2 ^ sh n : Nat) * (2 ^ sh n : Nat)

theorem two_pos (t : Nat) : (0 : Int) < ((2 ^ t : Nat) : Int) := by have := Nat.two_pow_pos t; omega
/-- floor to a multiple of 2^t -/
theorem floor_le (n : Int) (t : Nat) : n / ((2 ^ t : Nat) : Int) * ((2 ^ t : Nat) : Int) ≤ n ∧ n < n / ((2 ^ t : Nat) : Int) * ((2 ^ t : Nat) : Int) + ((2 ^ t : Nat) : Int) := by
  have hp := two_pos t
  have h1 := Int.mul_ediv_add_emod n ((2 ^ t : Nat) : Int)
  have h2 := Int.emod_nonneg n (Int.ne_of_gt hp)
  have h3 := Int.emod_lt_of_pos n hp
  rw [Int.mul_comm] at h1
  generalize n / ((2 ^ t : Nat) : Int) * ((2 ^ t : Nat) : Int) = q at *
  omega
theorem floor_max {n v : Int} {t : Nat} (x : Int) (hv : v = x * ((2 ^ t : Nat) : Int)) (h : v ≤ n) : v ≤ n / ((2 ^ t : Nat) : Int) * ((2 ^ t : Nat) : Int) := by
  have hx : x ≤ n / ((2 ^ t : Nat) : Int) := Int.le_ediv_of_mul_le (two_pos t) (by rw [← hv]; exact h)
  rw [hv]; exact Int.mul_le_mul_of_nonneg_right hx (Int.le_of_lt (two_pos t))
theorem flo_le (n : Int) : flo n ≤ n ∧ n < flo n + ((2 ^ sh n : Nat) : Int) := floor_le n (sh n)

theorem log_lo {n : Int} (h : 0 < sh n) : 2 ^ (52 + sh n) ≤ n.natAbs ∧ n.natAbs < 2 ^ (53 + sh n) := by
  have h0 : n.natAbs ≠ 0 := by intro e; unfold sh at h; rw [e] at h; simp at h
  have h1 := Nat.log2_self_le h0
  have h2 : n.natAbs < 2 ^ (n.natAbs.log2 + 1) := Nat.lt_log2_self
  have e : n.natAbs.log2 = 52 + sh n := by unfold sh at h ⊢; omega
  rw [e] at h1 h2
  exact ⟨h1, by rw [show 53 + sh n = 52 + sh n + 1 from by omega]; exact h2⟩
theorem log_small {n : Int} (h : sh n = 0) : n.natAbs < 9007199254740992 := by
  have h2 : n.natAbs < 2 ^ (n.natAbs.log2 + 1) := Nat.lt_log2_self
  have h3 : n.natAbs.log2 ≤ 52 := by unfold sh at h; omega
  have h4 : (2 : Nat) ^ (n.natAbs.log2 + 1) ≤ 2 ^ 53 := Nat.pow_le_pow_right (by decide) (by omega)
  have e : (2 : Nat) ^ 53 = 9007199254740992 := by decide
  omega
theorem sh_le {n : Int} (h1 : -9223372036854775808 ≤ n) (h2 : n ≤ 9223372036854775807) : sh n ≤ 11 := by
  by_cases h0 : sh n = 0
  · omega
  · have := (log_lo (n := n) (by omega)).1
    have hle : n.natAbs ≤ 2 ^ 63 := by have e : (2 : Nat) ^ 63 = 9223372036854775808 := by decide
                                       omega
    have := (Nat.pow_le_pow_iff_right (by decide : 1 < 2)).1 (Nat.le_trans this hle)
    omega
/-- the quotient -/
theorem quo_le (n : Int) : (n / ((2 ^ sh n : Nat) : Int)).natAbs ≤ 9007199254740992 := by
  by_cases h0 : sh n = 0
  · have := log_small h0
    rw [h0]; simp; omega
  · have h1 := (log_lo (n := n) (by omega)).2
    have hp := two_pos (sh n)
    rw [Nat.pow_add, show (2 : Nat) ^ 53 = 9007199254740992 from by decide] at h1
    obtain ⟨f1, f2⟩ := floor_le n (sh n)
    generalize 2 ^ sh n = p at *
    have a1 : n / (p : Int) < 9007199254740992 := Int.ediv_lt_of_lt_mul hp (by omega)
    have a2 : -9007199254740992 ≤ n / (p : Int) := Int.le_ediv_of_mul_le hp (by rw [Int.neg_mul]; omega)
    omega
theorem abs_mul_two (x : Int) (t : Nat) : (x * ((2 ^ t : Nat) : Int)).natAbs = x.natAbs * 2 ^ t := by rw [Int.natAbs_mul, Int.natAbs_natCast]
theorem flo_fit {n : Int} (h1 : -9223372036854775808 ≤ n) (h2 : n ≤ 9223372036854775807) : Fit (flo n) :=
  fit_of (flo n) (n / ((2 ^ sh n : Nat) : Int)).natAbs (sh n) (abs_mul_two _ _) (quo_le n) (by have := sh_le h1 h2; omega)
/-- it is the greatest of those that are of a float's form -/
theorem flo_max {n x : Int} {s : Nat} (hx : x.natAbs ≤ 9007199254740992) (h : x * ((2 ^ s : Nat) : Int) ≤ n) : x * ((2 ^ s : Nat) : Int) ≤ flo n := by
  by_cases hs : sh n ≤ s
  · refine floor_max (x * ((2 ^ (s - sh n) : Nat) : Int)) ?_ h
    rw [Int.mul_assoc, ← Int.natCast_mul, ← Nat.pow_add, show s - sh n + sh n = s from by omega]
  · obtain ⟨l1, l2⟩ := log_lo (n := n) (by omega)
    have habs := abs_mul_two x s
    have hb : x.natAbs * 2 ^ s ≤ 2 ^ (52 + sh n) := by
      have a1 : x.natAbs * 2 ^ s ≤ 2 ^ 53 * 2 ^ s := Nat.mul_le_mul_right _ (by have e : (2 : Nat) ^ 53 = 9007199254740992 := by decide
                                                                                omega)
      rw [← Nat.pow_add] at a1
      exact Nat.le_trans a1 (Nat.pow_le_pow_right (by decide) (by omega))
    have hf := @floor_max n ((2 ^ (52 + sh n) : Nat) : Int) (sh n) (2 ^ 52 : Nat) (by rw [Nat.pow_add, Int.natCast_mul])
    have hg := @floor_max n (-((2 ^ (52 + sh n) : Nat) : Int)) (sh n) (-((2 ^ 52 : Nat) : Int)) (by rw [Nat.pow_add, Int.natCast_mul, Int.neg_mul])
    show _ ≤ n / ((2 ^ sh n : Nat) : Int) * ((2 ^ sh n : Nat) : Int)
    generalize n / ((2 ^ sh n : Nat) : Int) * ((2 ^ sh n : Nat) : Int) = f at *
    generalize x * ((2 ^ s : Nat) : Int) = v at *
    rw [← habs] at hb
    generalize 2 ^ (52 + sh n) = p at *
    clear habs
    by_cases hn : 0 ≤ n
    · have := hf (by omega); omega
    · have := hg (by omega); omega
theorem flo_mono {a b : Int} (h : a ≤ b) : flo a ≤ flo b := flo_max (quo_le a) (Int.le_trans (flo_le a).1 h)
theorem flo_range {n : Int} (h1 : -9223372036854775808 ≤ n) (h2 : n ≤ 9223372036854775807) : -9223372036854775808 ≤ flo n ∧ flo n ≤ 9223372036854775807 := by
  have := @flo_max n (-4503599627370496) 11 (by decide) (by simpa using h1)
  have h3 := (flo_le n).1
  simp at this
  omega
theorem over_range {n : Int} (h1 : -9223372036854775808 ≤ n) (h2 : n ≤ 9223372036854775807) : 0 ≤ n - flo n ∧ n - flo n ≤ 2048 := by
  obtain ⟨a, b⟩ := flo_le n
  have h3 : 2 ^ sh n ≤ 2 ^ 11 := Nat.pow_le_pow_right (by decide) (sh_le h1 h2)
  generalize 2 ^ sh n = p at *
  simp at h3
  omega
/-- what a loop of halvings comes to -/
theorem flo_halved {n : Int} {k : Nat} (hk : k ≤ sh n) (hm : (n / ((2 ^ k : Nat) : Int)).natAbs ≤ 9007199254740992) : n / ((2 ^ k : Nat) : Int) * ((2 ^ k : Nat) : Int) = flo n := by
  have a1 := flo_max hm (floor_le n k).1
  have a2 : flo n ≤ n / ((2 ^ k : Nat) : Int) * ((2 ^ k : Nat) : Int) := by
    refine floor_max (n / ((2 ^ sh n : Nat) : Int) * ((2 ^ (sh n - k) : Nat) : Int)) ?_ (flo_le n).1
    rw [Int.mul_assoc, ← Int.natCast_mul, ← Nat.pow_add, show sh n - k + k = sh n from by omega]; rfl
  omega

/-! ### float64(n), rounded -/
theorem conv_fw {v : Int} (h : Fit v) (h1 : -9223372036854775808 ≤ v) (h2 : v ≤ 9223372036854775807) : floatToIntVal .f64 (fw v) .i64 = some v := by
  obtain ⟨f1, f2, f3, f4⟩ := fw_facts h
  unfold floatToIntVal
  have hp : part (fw v) = v.natAbs := by unfold part; rw [f4, Nat.mul_div_cancel _ S_pos]
  have e : sgn (neg (fw v)) (part (fw v)) = v := by
    rw [f2, hp]; unfold sgn; by_cases hv : v < 0 <;> simp [hv] <;> omega
  rw [toInt_eq f1 f3, e]
  have e1 : IntKind.i64.min = -9223372036854775808 := by decide
  have e2 : IntKind.i64.max = 9223372036854775807 := by decide
  simp only [e1, e2]
  rw [if_pos ⟨h1, h2⟩]
/-- float64(n) where it is rounded: a rung, and perhaps one more -/
theorem fw_round {n : Int} (h : 0 < sh n) (h' : sh n ≤ 11) : ∃ more : Bool, fw n = double.word (decide (n < 0)) ((sh n + 1074) * 4503599627370496 + (n.natAbs / 2 ^ sh n + more.toNat)) ∧ (n.natAbs % 2 ^ sh n = 0 → more = false) := by
  have e1 : double.infRung = 9218868437227405312 := by decide
  have e2 : double.binade = 4503599627370496 := by decide
  have e4 : double.leastPlace = -1074 := by decide
  have e5 : (double.fractionBits : Int) = 52 := by decide
  obtain ⟨l1, l2⟩ := log_lo h
  have hL : n.natAbs.log2 = 52 + sh n := by unfold sh at h ⊢; omega
  have h0 : n.natAbs ≠ 0 := by have := Nat.two_pow_pos (52 + sh n); omega
  rw [fw_eq]; unfold Format.nearest
  rw [if_neg h0]
  simp only [e1, e2, e4, e5, hL]
  have em : max (0 + ((52 + sh n : Nat) : Int) - 52) (-1074) = (sh n : Int) := by omega
  rw [em]
  have c1 : (0 - (sh n : Int)).toNat = 0 := by omega
  have c2 : ((sh n : Int) - 0).toNat = sh n := by omega
  have c3 : ((sh n : Int) - -1074).toNat = sh n + 1074 := by omega
  rw [c1, c2, c3]
  unfold Toward.cut
  simp only [Nat.shiftLeft_eq, Nat.pow_zero, Nat.mul_one, Nat.one_mul, hL]
  rw [Nat.min_eq_left (show sh n ≤ 52 + sh n + 2 from by omega)]
  have hp := Nat.two_pow_pos (sh n)
  have hz : n.natAbs % 2 ^ sh n = 0 → (decide (2 ^ sh n < 2 * (n.natAbs % 2 ^ sh n)) || (2 ^ sh n == 2 * (n.natAbs % 2 ^ sh n) && n.natAbs / 2 ^ sh n % 2 == 1)) = false := by
    intro hz
    rw [hz]; simp
  have hb : ∀ c : Bool, c.toNat ≤ 1 := by decide
  refine ⟨_, ?_, hz⟩
  congr 1
  refine Nat.min_eq_left ?_
  have hq : n.natAbs / 2 ^ sh n < 9007199254740992 := by
    refine Nat.div_lt_of_lt_mul ?_
    rw [show (9007199254740992 : Nat) = 2 ^ 53 from by decide, ← Nat.pow_add, Nat.add_comm]; exact l2
  have := hb (decide (2 ^ sh n < 2 * (n.natAbs % 2 ^ sh n)) || (2 ^ sh n == 2 * (n.natAbs % 2 ^ sh n) && n.natAbs / 2 ^ sh n % 2 == 1))
  omega
/-- the quotient of the size, and the floor of the number -/
theorem flo_abs (n : Int) : n / ((2 ^ sh n : Nat) : Int) = if n < 0 then -((n.natAbs / 2 ^ sh n : Nat) : Int) - (if n.natAbs % 2 ^ sh n = 0 then 0 else 1) else ((n.natAbs / 2 ^ sh n : Nat) : Int) := by
  have hp := Nat.two_pow_pos (sh n)
  generalize 2 ^ sh n = p at *
  by_cases hn : n < 0
  · rw [if_pos hn]
    obtain ⟨N, rfl⟩ : ∃ N : Nat, n = -(N : Int) := ⟨n.natAbs, by omega⟩
    rw [Int.natAbs_neg, Int.natAbs_natCast]
    have hd := Nat.div_add_mod N p
    have hm := Nat.mod_lt N hp
    generalize N / p = q at *
    generalize N % p = r at *
    subst hd
    by_cases hr : r = 0
    · subst hr
      rw [if_pos rfl, show (-((p * q + 0 : Nat) : Int)) = (-(q : Int)) * (p : Int) from by rw [Nat.add_zero, Int.natCast_mul, Int.neg_mul, Int.mul_comm]]
      rw [Int.mul_ediv_cancel _ (by omega)]; omega
    · rw [if_neg hr]
      have e : (-((p * q + r : Nat) : Int)) = ((p : Int) - r) + (-(q : Int) - 1) * (p : Int) := by
        rw [Int.sub_mul, Int.neg_mul, Int.one_mul, Int.natCast_add, Int.natCast_mul, Int.mul_comm (p : Int)]; omega
      rw [e, Int.add_mul_ediv_right _ _ (by omega), Int.ediv_eq_zero_of_lt (by omega) (by omega)]; omega
  · rw [if_neg hn]
    obtain ⟨N, rfl⟩ : ∃ N : Nat, n = (N : Int) := ⟨n.natAbs, by omega⟩
    rw [Int.natAbs_natCast]; rfl

theorem cases_pos {n : Int} {Z P B X : Nat} {more : Bool} (hn : ¬ n < 0) (hB : B + X + 1 < 9218868437227405312) (hz : Z < n.natAbs) (hr : n.natAbs < Z + P) (ht : Z + P ≤ 9223372036854775808)
    (m1 : Fit (Z : Int)) (m2 : fw (Z : Int) = B + X) (m3 : Fit ((Z + P : Nat) : Int)) (m4 : fw ((Z + P : Nat) : Int) = B + X + 1) (hfl : flo n = (Z : Int)) (hw : fw n = B + (X + more.toNat)) :
    ∃ u : Int, Fit u ∧ fw n = fw u ∧ -9223372036854775808 ≤ u ∧ u ≤ 9223372036854775808 ∧
      (u = flo n ∨ (n < u ∧ 0 < n ∧ 0 < fw n ∧ fw n < 9218868437227405312 ∧ fw n - 1 = fw (flo n)) ∨
        (n < u ∧ u < 0 ∧ n < 0 ∧ 9223372036854775808 < fw n ∧ fw n < 18442240474082181119 ∧ fw n + 1 = fw (flo n))) := by
  rcases more with _ | _
  · exact ⟨_, m1, by rw [hw, m2]; rfl, by omega, by omega, Or.inl hfl.symm⟩
  · rw [show true.toNat = 1 from rfl] at hw
    exact ⟨_, m3, by rw [hw, m4, Nat.add_assoc], by omega, by omega, Or.inr (Or.inl ⟨by omega, by omega, by omega, by omega, by rw [hfl, m2, hw]; omega⟩)⟩
theorem cases_neg {n : Int} {Z P B X : Nat} {more : Bool} (hn : n < 0) (hB : B + X + 1 < 9218868437227405311) (hX : 0 < X) (hZ : 0 < Z) (hz : Z < n.natAbs) (hr : n.natAbs < Z + P) (ht : Z + P ≤ 9223372036854775808)
    (m1 : Fit (-(Z : Int))) (m2 : fw (-(Z : Int)) = 9223372036854775808 + (B + X)) (m3 : Fit (-((Z + P : Nat) : Int))) (m4 : fw (-((Z + P : Nat) : Int)) = 9223372036854775808 + (B + X + 1)) (hfl : flo n = -((Z + P : Nat) : Int)) (hw : fw n = 9223372036854775808 + (B + (X + more.toNat))) :
    ∃ u : Int, Fit u ∧ fw n = fw u ∧ -9223372036854775808 ≤ u ∧ u ≤ 9223372036854775808 ∧
      (u = flo n ∨ (n < u ∧ 0 < n ∧ 0 < fw n ∧ fw n < 9218868437227405312 ∧ fw n - 1 = fw (flo n)) ∨
        (n < u ∧ u < 0 ∧ n < 0 ∧ 9223372036854775808 < fw n ∧ fw n < 18442240474082181119 ∧ fw n + 1 = fw (flo n))) := by
  rcases more with _ | _
  · rw [show false.toNat = 0 from rfl] at hw
    exact ⟨_, m1, by rw [hw, m2]; rfl, by omega, by omega, Or.inr (Or.inr ⟨by omega, by omega, hn, by omega, by omega, by rw [hfl, m4, hw]; rfl⟩)⟩
  · rw [show true.toNat = 1 from rfl] at hw
    exact ⟨_, m3, by rw [hw, m4, Nat.add_assoc], by omega, by omega, Or.inl hfl.symm⟩
/-- float64(n) is the greatest float that is not above n, or the next one above it (then by one rung) -/
theorem fw_cases {n : Int} (h1 : -9223372036854775808 ≤ n) (h2 : n ≤ 9223372036854775807) :
    ∃ u : Int, Fit u ∧ fw n = fw u ∧ -9223372036854775808 ≤ u ∧ u ≤ 9223372036854775808 ∧
      (u = flo n ∨ (n < u ∧ 0 < n ∧ 0 < fw n ∧ fw n < 9218868437227405312 ∧ fw n - 1 = fw (flo n)) ∨
        (n < u ∧ u < 0 ∧ n < 0 ∧ 9223372036854775808 < fw n ∧ fw n < 18442240474082181119 ∧ fw n + 1 = fw (flo n))) := by
  have hfit := flo_fit h1 h2
  obtain ⟨r1, r2⟩ := flo_range h1 h2
  by_cases h0 : sh n = 0
  · have e : flo n = n := by unfold flo; rw [h0]; simp
    exact ⟨n, by rw [← e]; exact hfit, rfl, h1, by omega, Or.inl e.symm⟩
  · have hs := sh_le h1 h2
    obtain ⟨more, hw, hz⟩ := fw_round (n := n) (by omega) hs
    obtain ⟨l1, l2⟩ := log_lo (n := n) (by omega)
    have hpp := Nat.two_pow_pos (sh n)
    have hq1 : 4503599627370496 ≤ n.natAbs / 2 ^ sh n := by
      refine (Nat.le_div_iff_mul_le hpp).2 ?_
      rw [show (4503599627370496 : Nat) = 2 ^ 52 from by decide, ← Nat.pow_add]; exact l1
    have hq2 : n.natAbs / 2 ^ sh n < 9007199254740992 := by
      refine Nat.div_lt_of_lt_mul ?_
      rw [show (9007199254740992 : Nat) = 2 ^ 53 from by decide, ← Nat.pow_add, Nat.add_comm]; exact l2
    have hfa := flo_abs n
    have hfd : flo n = n / ((2 ^ sh n : Nat) : Int) * ((2 ^ sh n : Nat) : Int) := rfl
    have hmod := Nat.div_add_mod n.natAbs (2 ^ sh n)
    have hml := Nat.mod_lt n.natAbs hpp
    have key : ∀ y : Nat, 4503599627370496 ≤ y → y ≤ 9007199254740992 → ladder ((sh n + 1074) * 4503599627370496 + y) = y * 2 ^ sh n * S := by
      intro y y1 y2
      obtain ⟨q, hq⟩ : ∃ q, q = 1074 := ⟨_, rfl⟩
      rw [S_eq q hq, ← hq, ladder_at _ _ y1 y2, Nat.mul_assoc, ← Nat.pow_add]
    have htop : n.natAbs % 2 ^ sh n ≠ 0 → (n.natAbs / 2 ^ sh n + 1) * 2 ^ sh n ≤ 9223372036854775808 := by
      intro hne
      have ht : sh n ≤ 10 := by
        apply Nat.le_of_not_lt; intro hc
        have e11 : sh n = 11 := by omega
        rw [e11] at l1 hne
        have e : (2 : Nat) ^ (52 + 11) = 9223372036854775808 := by decide
        rw [e] at l1
        have e' : n.natAbs = 9223372036854775808 := by omega
        rw [e'] at hne
        exact hne (by decide)
      have a1 : (n.natAbs / 2 ^ sh n + 1) * 2 ^ sh n ≤ 2 ^ 53 * 2 ^ 10 :=
        Nat.mul_le_mul (by have e : (2 : Nat) ^ 53 = 9007199254740992 := by decide
                           omega) (Nat.pow_le_pow_right (by decide) ht)
      exact a1
    have hbase : sh n + 1074 ≤ 1085 := by omega
    generalize 2 ^ sh n = P at *
    generalize (sh n + 1074) = T at *
    clear l1 l2 h0 hs
    have mk : ∀ y : Nat, 4503599627370496 ≤ y → y ≤ 9007199254740992 → ∀ v : Int, (v = (if n < 0 then -((y * P : Nat) : Int) else ((y * P : Nat) : Int))) →
        Fit v ∧ fw v = double.word (decide (n < 0)) (T * 4503599627370496 + y) := by
      intro y y1 y2 v hv
      have hyp : 0 < y * P := Nat.mul_pos (by omega) hpp
      have hk := key y y1 y2
      have hr : T * 4503599627370496 + y < 9218868437227405312 := by omega
      generalize T * 4503599627370496 + y = R at *
      generalize y * P = z at *
      clear key hfa hfd hmod hml hw hz htop
      have hva : v.natAbs = z := by rw [hv]; split <;> omega
      have hvn : decide (v < 0) = decide (n < 0) := by
        rw [hv]; by_cases hn : n < 0 <;> simp [hn] <;> omega
      refine ⟨⟨R, hr, by rw [hva, hk]⟩, ?_⟩
      rw [fw_word hr (by rw [hva, hk]), hvn]
    generalize hX : n.natAbs / P = X at *
    have hXP : (X + 1) * P = P * X + P := by rw [Nat.add_mul, Nat.mul_comm X P, Nat.one_mul]
    have hXP' : X * P = P * X := Nat.mul_comm X P
    by_cases hr0 : n.natAbs % P = 0
    · have e : flo n = n := by
        rw [hfd, hfa, if_pos hr0]
        by_cases hn : n < 0
        · rw [if_pos hn, Int.sub_zero, Int.neg_mul, ← Int.natCast_mul, hXP']; omega
        · rw [if_neg hn, ← Int.natCast_mul, hXP']; omega
      exact ⟨n, by rw [← e]; exact hfit, rfl, h1, by omega, Or.inl e.symm⟩
    · have ht := htop hr0
      rw [if_neg hr0] at hfa
      obtain ⟨m1, m2⟩ := mk X hq1 (by omega) _ rfl
      obtain ⟨m3, m4⟩ := mk (X + 1) (by omega) (by omega) _ rfl
      have hfl : flo n = if n < 0 then -(((X + 1) * P : Nat) : Int) else ((X * P : Nat) : Int) := by
        rw [hfd, hfa]
        by_cases hn : n < 0
        · rw [if_pos hn, if_pos hn, Int.sub_mul, Int.neg_mul, Int.one_mul, ← Int.natCast_mul, hXP, hXP']; omega
        · rw [if_neg hn, if_neg hn, Int.natCast_mul]
      rw [hXP] at ht m3 m4 hfl
      rw [hXP'] at m1 m2 hfl
      have hZ0 : 4503599627370496 ≤ P * X := Nat.le_trans hq1 (Nat.le_mul_of_pos_left X hpp)
      generalize P * X = Z at *
      have hTX : T * 4503599627370496 + X + 1 < 9218868437227405311 := by omega
      rw [← Nat.add_assoc] at m4
      have hml' : n.natAbs < Z + P := by omega
      have hz' : Z < n.natAbs := by omega
      have hZ : 4503599627370496 ≤ Z := hZ0
      generalize T * 4503599627370496 = B at *
      clear mk key hfa hfd hz hXP hXP' hmod hml h1 h2 hfit hZ0 r1 r2 hX
      by_cases hn : n < 0
      · rw [if_pos hn] at hfl m1 m2 m3 m4
        rw [decide_eq_true hn, word_eq, if_pos rfl] at m2 m4 hw
        exact cases_neg hn hTX (by omega) (by omega) hz' hml' ht m1 m2 m3 m4 hfl hw
      · rw [if_neg hn] at hfl m1 m2 m3 m4
        rw [decide_eq_false hn, word_eq, if_neg (by simp)] at m2 m4 hw
        exact cases_pos hn (by omega) hz' hml' ht m1 m2 m3 m4 hfl hw

/-! ### products of whole numbers -/
theorem place_lo {a i x : Nat} (ha : a < 9007199254740992) (hx : 0 < x) (h : x * S = a * 2 ^ i) : 1021 ≤ i := by
  obtain ⟨q, hq⟩ : ∃ q, q = 1074 := ⟨_, rfl⟩
  have h1 : S ≤ a * 2 ^ i := by rw [← h]; exact Nat.le_mul_of_pos_left S hx
  have h2 : a * 2 ^ i < 2 ^ 53 * 2 ^ i := Nat.mul_lt_mul_of_pos_right (by have e : (2 : Nat) ^ 53 = 9007199254740992 := by decide
                                                                          omega) (Nat.two_pow_pos i)
  rw [S_eq q hq] at h1
  rw [← Nat.pow_add] at h2
  have h3 := (Nat.pow_lt_pow_iff_right (by decide : 1 < 2)).1 (Nat.lt_of_le_of_lt h1 h2)
  omega
theorem nearest_zero (s : Bool) (e : Int) : double.nearest s 0 e = double.word s 0 := by unfold Format.nearest; rw [if_pos rfl]
theorem mul_fw {m p : Int} (hm : Fit m) (hp : Fit p) (hmp : Fit (m * p)) (p0 : 0 < p) : double.mul (fw m) (fw p) = some (fw (m * p)) := by
  obtain ⟨m1, m2, m3, m4⟩ := fw_facts hm
  obtain ⟨p1, p2, p3, p4⟩ := fw_facts hp
  obtain ⟨a, i, a1, a2, a3⟩ := read_fin m1 m3
  obtain ⟨c, j, c1, c2, c3⟩ := read_fin p1 p3
  rw [m4] at a2; rw [p4] at c2
  unfold Format.mul
  rw [a1, c1, m2, p2, decide_eq_false (by omega : ¬ p < 0)]
  simp only [Datum.product, Option.map_some]
  refine congrArg some ?_
  rw [Bool.xor_false]
  change double.nearest (decide (m < 0)) (a * c) ((i : Int) - 1074 + ((j : Int) - 1074)) = fw (m * p)
  by_cases hz : m = 0
  · subst hz
    have ha0 : a = 0 := by
      have := Nat.two_pow_pos i
      rw [Int.natAbs_zero, Nat.zero_mul] at a2
      rcases Nat.mul_eq_zero.1 a2.symm with h | h
      · exact h
      · omega
    subst ha0
    rw [Nat.zero_mul, Int.zero_mul, fw_eq, Int.natAbs_zero, nearest_zero, nearest_zero]
  · have hi := place_lo a3 (by omega) a2
    have hj := place_lo c3 (by omega) c2
    obtain ⟨r, r1, r2⟩ := hmp
    have hs : decide (m * p < 0) = decide (m < 0) := by
      have : m * p < 0 ↔ m < 0 := by
        constructor
        · intro h; apply Int.not_le.1; intro hc; have := Int.mul_nonneg hc (Int.le_of_lt p0); omega
        · intro h; exact Int.mul_neg_of_neg_of_pos h p0
      simp [this]
    rw [fw_word r1 r2, hs, show (i : Int) - 1074 + ((j : Int) - 1074) = ((i + j - 1074 : Nat) : Int) - 1074 from by omega]
    refine nearest_exact _ _ _ _ (by omega) ?_
    rw [← r2]
    refine Nat.eq_of_mul_eq_mul_right S_pos ?_
    have e : 2 ^ (i + j - 1074) * S = 2 ^ i * 2 ^ j := by
      obtain ⟨q, hq⟩ : ∃ q, q = 1074 := ⟨_, rfl⟩
      rw [S_eq q hq, ← Nat.pow_add, ← Nat.pow_add, show i + j - 1074 + q = i + j from by omega]
    rw [Nat.mul_assoc, e, Int.natAbs_mul]
    calc a * c * (2 ^ i * 2 ^ j) = (a * 2 ^ i) * (c * 2 ^ j) := by simp only [Nat.mul_left_comm, Nat.mul_assoc]
      _ = (m.natAbs * S) * (p.natAbs * S) := by rw [← a2, ← c2]
      _ = m.natAbs * p.natAbs * S * S := by simp only [Nat.mul_left_comm, Nat.mul_assoc]
theorem floatBits_mul {m p : Int} (hm : Fit m) (hp : Fit p) (hmp : Fit (m * p)) (p0 : 0 < p) : floatBits .mul .f64 (floatOfInt .f64 m) (floatOfInt .f64 p) = some (fw (m * p)) := by
  have h := mul_fw hm hp hmp p0
  unfold floatBits floatOfInt
  exact h
end Go.Fl
