/- digits and numbers: the plain mathematics -/
import Derived.Test.YtbllmodafjdmcaaDoorLxX
import Derived.Test.YtbllmodafjdmcaaDoorLyT
namespace Go.Proofs.YtbllmodafjdmcaaDoor
open Go

def stepV (a : Nat) (c : UInt8) : Nat := a * 10 + (c.toNat - 48)

def decV (a : Nat) (l : List UInt8) : Nat := l.foldl stepV a

theorem decV_cons (a : Nat) (c : UInt8) (r : List UInt8) : decV a (c :: r) = decV (a * 10 + (c.toNat - 48)) r := by
  unfold decV
  rw [List.foldl_cons, stepV]

theorem decV_nil (a : Nat) : decV a [] = a := by
  unfold decV
  rw [List.foldl_nil]

theorem decV_snoc (l : List UInt8) : ∀ (a : Nat) (c : UInt8), decV a (l ++ [c]) = decV a l * 10 + (c.toNat - 48) := by
  induction l with
  | nil => intro a c; rw [List.nil_append, decV_cons, decV_nil, decV_nil]
  | cons b r ih => intro a c; rw [List.cons_append, decV_cons, ih, decV_cons]

theorem decV_ge (l : List UInt8) : ∀ a : Nat, a ≤ decV a l := by
  induction l with
  | nil => intro a; rw [decV_nil]; exact Nat.le_refl a
  | cons c r ih => intro a; have := ih (a * 10 + (c.toNat - 48)); rw [decV_cons]; omega

theorem digB_iff (c : UInt8) : digB c = true ↔ 48 ≤ c.toNat ∧ c.toNat ≤ 57 := by simp [digB]

theorem dig_back {c : UInt8} (h : digB c = true) : UInt8.ofNat (48 + (c.toNat - 48)) = c := by
  have := (digB_iff c).1 h
  rw [show 48 + (c.toNat - 48) = c.toNat by omega]; simp

theorem dig_make (d : Nat) (h : d < 10) : digB (UInt8.ofNat (48 + d)) = true ∧ (UInt8.ofNat (48 + d)).toNat - 48 = d := by
  have e : (UInt8.ofNat (48 + d)).toNat = 48 + d := by simp; omega
  rw [digB_iff, e]; omega

theorem decV_lt : ∀ (a : Nat) (l : List UInt8), l.all digB = true → decV a l < (a + 1) * 10 ^ l.length
  | a, [], _ => by rw [decV_nil]; simp
  | a, c :: r, h => by
    rw [List.all_cons, Bool.and_eq_true] at h
    have hc := (digB_iff c).1 h.1
    have := decV_lt (a * 10 + (c.toNat - 48)) r h.2
    rw [decV_cons, List.length_cons, Nat.pow_succ]
    refine Nat.lt_of_lt_of_le this ?_
    rw [Nat.mul_comm (10 ^ r.length) 10, ← Nat.mul_assoc]
    exact Nat.mul_le_mul_right _ (by omega)

theorem decDigits_big {u : Nat} (h : ¬ u < 10) : Lib.decDigits u = Lib.decDigits (u / 10) ++ [UInt8.ofNat (48 + u % 10)] := by
  rw [Lib.decDigits, dif_neg h]

theorem decV_dec (u : Nat) : decV 0 (Lib.decDigits u) = u := by
  induction u using Nat.strongRecOn with
  | _ u ih =>
    by_cases h : u < 10
    · rw [Lib.decDigits_one h]
      rw [decV_cons, decV_nil]
      have := (dig_make u h).2; omega
    · rw [decDigits_big h, decV_snoc, ih (u / 10) (by omega), (dig_make (u % 10) (by omega)).2]
      omega

theorem dec_all (u : Nat) : (Lib.decDigits u).all digB = true := by
  induction u using Nat.strongRecOn with
  | _ u ih =>
    by_cases h : u < 10
    · rw [Lib.decDigits_one h, List.all_cons, (dig_make u h).1]; rfl
    · rw [decDigits_big h, List.all_append, ih (u / 10) (by omega), List.all_cons, (dig_make (u % 10) (by omega)).1]; rfl

theorem dec_head (u : Nat) (hu : 1 ≤ u) : ∃ c r, Lib.decDigits u = c :: r ∧ c ≠ 48 := by
  induction u using Nat.strongRecOn with
  | _ u ih =>
    by_cases h : u < 10
    · rw [Lib.decDigits_one h]
      refine ⟨_, [], rfl, fun e => ?_⟩
      have := congrArg UInt8.toNat e
      have e2 := (dig_make u h).2
      rw [this] at e2
      have : (48 : UInt8).toNat = 48 := rfl
      omega
    · obtain ⟨c, r, h1, h2⟩ := ih (u / 10) (by omega) (by omega)
      rw [decDigits_big h, h1]
      exact ⟨c, _, rfl, h2⟩

theorem dec_len : ∀ (k u : Nat), u < 10 ^ (k + 1) → (Lib.decDigits u).length ≤ k + 1
  | 0, u, h => by rw [Lib.decDigits_one (by simpa using h)]; simp
  | k + 1, u, h => by
    by_cases h1 : u < 10
    · rw [Lib.decDigits_one h1]; simp
    · rw [decDigits_big h1, List.length_append, List.length_singleton]
      have := dec_len k (u / 10) (by rw [Nat.pow_succ] at h; omega)
      omega

/-- digits without a nought ahead are those of their number -/
theorem dec_decV : ∀ (n : Nat) (l : List UInt8), l.length = n → l ≠ [] → l.all digB = true → l.head? ≠ some 48 → Lib.decDigits (decV 0 l) = l ∧ 1 ≤ decV 0 l
  | 0, l, hn, hl, _, _ => absurd (List.length_eq_zero_iff.1 hn) hl
  | n + 1, l, hn, hl, ha, hh => by
    obtain ⟨r, c, rfl⟩ : ∃ r c, l = r ++ [c] := ⟨l.dropLast, l.getLast hl, (List.dropLast_concat_getLast hl).symm⟩
    rw [List.all_append, Bool.and_eq_true] at ha
    have hc : digB c = true := by have := ha.2; simpa using this
    have hcd := (digB_iff c).1 hc
    rw [decV_snoc]
    by_cases hr : r = []
    · subst hr
      have h48 : c ≠ 48 := fun e => hh (by rw [e]; rfl)
      have h48' := u8_ne (k := 48) h48
      rw [decV_nil, List.nil_append, show 0 * 10 + (c.toNat - 48) = c.toNat - 48 by omega, Lib.decDigits_one (by omega), dig_back hc]
      exact ⟨rfl, by omega⟩
    · rw [List.length_append, List.length_singleton] at hn
      obtain ⟨h1, h2⟩ := dec_decV n r (by omega) hr ha.1 (by
        cases r with
        | nil => exact absurd rfl hr
        | cons b q => simpa using hh)
      refine ⟨?_, by omega⟩
      rw [decDigits_big (by omega), show (decV 0 r * 10 + (c.toNat - 48)) / 10 = decV 0 r by omega, h1, show (decV 0 r * 10 + (c.toNat - 48)) % 10 = c.toNat - 48 by omega, dig_back hc]

theorem parse_dig : ∀ (acc : Nat) (l : List UInt8), l.all digB = true → decV acc l < 18446744073709551616 → Lib.parseUint10 acc l = .ok (decV acc l)
  | acc, [], _, _ => by rw [decV_nil]; rfl
  | acc, c :: r, ha, h => by
    rw [List.all_cons, Bool.and_eq_true] at ha
    have hc := (digB_iff c).1 ha.1
    have hge := decV_ge r (acc * 10 + (c.toNat - 48))
    rw [decV_cons] at h ⊢
    rw [Lib.parseUint10, if_pos hc, if_neg (by omega), if_neg (by omega), parse_dig _ r ha.2 h]

/-- the int64 of digits in their only form -/
def intO (l : List UInt8) : Option Int :=
  match l with
  | [] => none
  | c :: r =>
    if c = 45 then
      (if r = [] ∨ 19 < r.length ∨ r.head? = some 48 then none else if r.all digB = true then (if decV 0 r ≤ 9223372036854775808 then some (-(decV 0 r : Int)) else none) else none)
    else
      (if 19 < (c :: r).length ∨ (c = 48 ∧ r ≠ []) then none else if (c :: r).all digB = true then (if decV 0 (c :: r) < 9223372036854775808 then some (decV 0 (c :: r) : Int) else none) else none)

theorem dec_ne (u : Nat) : Lib.decDigits u ≠ [] := by
  intro e
  have := Lib.decDigits_length u
  have h2 := Lib.nDigits_pos u
  rw [e] at this
  simp at this
  omega

theorem intO_itoa (n : Int) (h1 : -9223372036854775808 ≤ n) (h2 : n ≤ 9223372036854775807) : intO (Lib.itoa n) = some n := by
  unfold Lib.itoa
  have hlen : ∀ u : Nat, u ≤ 9223372036854775808 → (Lib.decDigits u).length ≤ 19 := fun u hu => dec_len 18 u (Nat.lt_of_le_of_lt hu (by decide))
  split
  · rename_i hneg
    have hu : n.natAbs ≤ 9223372036854775808 := by omega
    obtain ⟨c, r, hcr, hc48⟩ := dec_head n.natAbs (by omega)
    have hl := hlen _ hu
    unfold intO
    simp only [if_true]
    rw [if_neg (by
      rintro (h | h | h)
      · exact dec_ne _ h
      · omega
      · rw [hcr] at h; injection h with h; exact hc48 h), if_pos (dec_all _), decV_dec, if_pos hu]
    congr 1; omega
  · rename_i hpos
    have hu : n.toNat < 9223372036854775808 := by omega
    have hl := hlen n.toNat (by omega)
    have hv := decV_dec n.toNat
    have ha := dec_all n.toNat
    have hz : ∀ c r, Lib.decDigits n.toNat = c :: r → ¬ (c = 48 ∧ r ≠ []) := by
      intro c r e ⟨hc, hr⟩
      by_cases h0 : n.toNat = 0
      · rw [h0, Lib.decDigits_one (by decide)] at e
        injection e with _ e; exact hr e.symm
      · obtain ⟨c', r', e', hc'⟩ := dec_head n.toNat (by omega)
        rw [e] at e'; injection e' with e1 e2
        exact hc' (by rw [← e1]; exact hc)
    cases hd : Lib.decDigits n.toNat with
    | nil => exact absurd hd (dec_ne _)
    | cons c r =>
      rw [hd] at hl hv ha
      have hc : digB c = true := by rw [List.all_cons, Bool.and_eq_true] at ha; exact ha.1
      have h45 : c ≠ 45 := by intro e; rw [e] at hc; exact absurd hc (by decide)
      unfold intO
      simp only []
      rw [if_neg h45, if_neg (by
        rintro (h | h)
        · omega
        · exact hz c r hd h), if_pos ha, hv, if_pos hu]
      congr 1; omega

end Go.Proofs.YtbllmodafjdmcaaDoor
