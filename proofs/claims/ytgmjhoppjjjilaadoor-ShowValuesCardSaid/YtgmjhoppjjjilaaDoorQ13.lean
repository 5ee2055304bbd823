/- LyD, LyE -/
import Derived.Test.YtgmjhoppjjjilaaDoorQ12

/- digits and numbers: the plain mathematics -/
namespace Go.Proofs.YtgmjhoppjjjilaaDoor
open Go

def stepV (a : Nat) (c : UInt8) : Nat := a * 10 + (c.toNat - 48)

def decV (a : Nat) (l : List UInt8) : Nat := l.foldl stepV a

theorem decV_cons (a : Nat) (c : UInt8) (r : List UInt8) : decV a (c :: r) = decV (a * 10 + (c.toNat - 48)) r := by
  unfold decV
  rw [List.foldl_cons, stepV]

theorem decV_nil (a : Nat) : decV a [] = a := by
  unfold decV
  rw [List.foldl_nil]

theorem decV_snoc (l : List UInt8) : ∀ (a : Nat) (c : UInt8), decV a (l ++ [c]) = decV a l * 10 + (c.toNat - 48) := by
  induction l with
  | nil => intro a c; rw [List.nil_append, decV_cons, decV_nil, decV_nil]
  | cons b r ih => intro a c; rw [List.cons_append, decV_cons, ih, decV_cons]

theorem decV_ge (l : List UInt8) : ∀ a : Nat, a ≤ decV a l := by
  induction l with
  | nil => intro a; rw [decV_nil]; exact Nat.le_refl a
  | cons c r ih => intro a; have := ih (a * 10 + (c.toNat - 48)); rw [decV_cons]; omega

theorem digB_iff (c : UInt8) : digB c = true ↔ 48 ≤ c.toNat ∧ c.toNat ≤ 57 := by simp [digB]

theorem dig_back {c : UInt8} (h : digB c = true) : UInt8.ofNat (48 + (c.toNat - 48)) = c := by
  have := (digB_iff c).1 h
  rw [show 48 + (c.toNat - 48) = c.toNat by omega]; simp

theorem dig_make (d : Nat) (h : d < 10) : digB (UInt8.ofNat (48 + d)) = true ∧ (UInt8.ofNat (48 + d)).toNat - 48 = d := by
  have e : (UInt8.ofNat (48 + d)).toNat = 48 + d := by simp; omega
  rw [digB_iff, e]; omega

theorem decV_lt : ∀ (a : Nat) (l : List UInt8), l.all digB = true → decV a l < (a + 1) * 10 ^ l.length
  | a, [], _ => by rw [decV_nil]; simp
  | a, c :: r, h => by
    rw [List.all_cons, Bool.and_eq_true] at h
    have hc := (digB_iff c).1 h.1
    have := decV_lt (a * 10 + (c.toNat - 48)) r h.2
    rw [decV_cons, List.length_cons, Nat.pow_succ]
    refine Nat.lt_of_lt_of_le this ?_
    rw [Nat.mul_comm (10 ^ r.length) 10, ← Nat.mul_assoc]
    exact Nat.mul_le_mul_right _ (by omega)

theorem decDigits_big {u : Nat} (h : ¬ u < 10) : Lib.decDigits u = Lib.decDigits (u / 10) ++ [UInt8.ofNat (48 + u % 10)] := by
  rw [Lib.decDigits, dif_neg h]

theorem decV_dec (u : Nat) : decV 0 (Lib.decDigits u) = u := by
  induction u using Nat.strongRecOn with
  | _ u ih =>
    by_cases h : u < 10
    · rw [Lib.decDigits_one h]
      rw [decV_cons, decV_nil]
      have := (dig_make u h).2; omega
    · rw [decDigits_big h, decV_snoc, ih (u / 10) (by omega), (dig_make (u % 10) (by omega)).2]
      omega

theorem dec_all (u : Nat) : (Lib.decDigits u).all digB = true := by
  induction u using Nat.strongRecOn with
  | _ u ih =>
    by_cases h : u < 10
    · rw [Lib.decDigits_one h, List.all_cons, (dig_make u h).1]; rfl
    · rw [decDigits_big h, List.all_append, ih (u / 10) (by omega), List.all_cons, (dig_make (u % 10) (by omega)).1]; rfl

theorem dec_head (u : Nat) (hu : 1 ≤ u) : ∃ c r, Lib.decDigits u = c :: r ∧ c ≠ 48 := by
  induction u using Nat.strongRecOn with
  | _ u ih =>
    by_cases h : u < 10
    · rw [Lib.decDigits_one h]
      refine ⟨_, [], rfl, fun e => ?_⟩
      have := congrArg UInt8.toNat e
      have e2 := (dig_make u h).2
      rw [this] at e2
      have : (48 : UInt8).toNat = 48 := rfl
      omega
    · obtain ⟨c, r, h1, h2⟩ := ih (u / 10) (by omega) (by omega)
      rw [decDigits_big h, h1]
      exact ⟨c, _, rfl, h2⟩

theorem dec_len : ∀ (k u : Nat), u < 10 ^ (k + 1) → (Lib.decDigits u).length ≤ k + 1
  | 0, u, h => by rw [Lib.decDigits_one (by simpa using h)]; simp
  | k + 1, u, h => by
    by_cases h1 : u < 10
    · rw [Lib.decDigits_one h1]; simp
    · rw [decDigits_big h1, List.length_append, List.length_singleton]
      have := dec_len k (u / 10) (by rw [Nat.pow_succ] at h; omega)
      omega

/-- digits without a nought ahead are those of their number -/
theorem dec_decV : ∀ (n : Nat) (l : List UInt8), l.length = n → l ≠ [] → l.all digB = true → l.head? ≠ some 48 → Lib.decDigits (decV 0 l) = l ∧ 1 ≤ decV 0 l
  | 0, l, hn, hl, _, _ => absurd (List.length_eq_zero_iff.1 hn) hl
  | n + 1, l, hn, hl, ha, hh => by
    obtain ⟨r, c, rfl⟩ : ∃ r c, l = r ++ [c] := ⟨l.dropLast, l.getLast hl, (List.dropLast_concat_getLast hl).symm⟩
    rw [List.all_append, Bool.and_eq_true] at ha
    have hc : digB c = true := by have := ha.2; simpa using this
    have hcd := (digB_iff c).1 hc
    rw [decV_snoc]
    by_cases hr : r = []
    · subst hr
      have h48 : c ≠ 48 := fun e => hh (by rw [e]; rfl)
      have h48' := u8_ne (k := 48) h48
      rw [decV_nil, List.nil_append, show 0 * 10 + (c.toNat - 48) = c.toNat - 48 by omega, Lib.decDigits_one (by omega), dig_back hc]
      exact ⟨rfl, by omega⟩
    · rw [List.length_append, List.length_singleton] at hn
      obtain ⟨h1, h2⟩ := dec_decV n r (by omega) hr ha.1 (by
        cases r with
        | nil => exact absurd rfl hr
        | cons b q => simpa using hh)
      refine ⟨?_, by omega⟩
      rw [decDigits_big (by omega), show (decV 0 r * 10 + (c.toNat - 48)) / 10 = decV 0 r by omega, h1, show (decV 0 r * 10 + (c.toNat - 48)) % 10 = c.toNat - 48 by omega, dig_back hc]

theorem parse_dig : ∀ (acc : Nat) (l : List UInt8), l.all digB = true → decV acc l < 18446744073709551616 → Lib.parseUint10 acc l = .ok (decV acc l)
  | acc, [], _, _ => by rw [decV_nil]; rfl
  | acc, c :: r, ha, h => by
    rw [List.all_cons, Bool.and_eq_true] at ha
    have hc := (digB_iff c).1 ha.1
    have hge := decV_ge r (acc * 10 + (c.toNat - 48))
    rw [decV_cons] at h ⊢
    rw [Lib.parseUint10, if_pos hc, if_neg (by omega), if_neg (by omega), parse_dig _ r ha.2 h]

/-- the int64 of digits in their only form -/
def intO (l : List UInt8) : Option Int :=
  match l with
  | [] => none
  | c :: r =>
    if c = 45 then
      (if r = [] ∨ 19 < r.length ∨ r.head? = some 48 then none else if r.all digB = true then (if decV 0 r ≤ 9223372036854775808 then some (-(decV 0 r : Int)) else none) else none)
    else
      (if 19 < (c :: r).length ∨ (c = 48 ∧ r ≠ []) then none else if (c :: r).all digB = true then (if decV 0 (c :: r) < 9223372036854775808 then some (decV 0 (c :: r) : Int) else none) else none)

theorem dec_ne (u : Nat) : Lib.decDigits u ≠ [] := by
  intro e
  have := Lib.decDigits_length u
  have h2 := Lib.nDigits_pos u
  rw [e] at this
  simp at this
  omega

theorem intO_itoa (n : Int) (h1 : -9223372036854775808 ≤ n) (h2 : n ≤ 9223372036854775807) : intO (Lib.itoa n) = some n := by
  unfold Lib.itoa
  have hlen : ∀ u : Nat, u ≤ 9223372036854775808 → (Lib.decDigits u).length ≤ 19 := fun u hu => dec_len 18 u (Nat.lt_of_le_of_lt hu (by decide))
  split
  · rename_i hneg
    have hu : n.natAbs ≤ 9223372036854775808 := by omega
    obtain ⟨c, r, hcr, hc48⟩ := dec_head n.natAbs (by omega)
    have hl := hlen _ hu
    unfold intO
    simp only [if_true]
    rw [if_neg (by
      rintro (h | h | h)
      · exact dec_ne _ h
      · omega
      · rw [hcr] at h; injection h with h; exact hc48 h), if_pos (dec_all _), decV_dec, if_pos hu]
    congr 1; omega
  · rename_i hpos
    have hu : n.toNat < 9223372036854775808 := by omega
    have hl := hlen n.toNat (by omega)
    have hv := decV_dec n.toNat
    have ha := dec_all n.toNat
    have hz : ∀ c r, Lib.decDigits n.toNat = c :: r → ¬ (c = 48 ∧ r ≠ []) := by
      intro c r e ⟨hc, hr⟩
      by_cases h0 : n.toNat = 0
      · rw [h0, Lib.decDigits_one (by decide)] at e
        injection e with _ e; exact hr e.symm
      · obtain ⟨c', r', e', hc'⟩ := dec_head n.toNat (by omega)
        rw [e] at e'; injection e' with e1 e2
        exact hc' (by rw [← e1]; exact hc)
    cases hd : Lib.decDigits n.toNat with
    | nil => exact absurd hd (dec_ne _)
    | cons c r =>
      rw [hd] at hl hv ha
      have hc : digB c = true := by rw [List.all_cons, Bool.and_eq_true] at ha; exact ha.1
      have h45 : c ≠ 45 := by intro e; rw [e] at hc; exact absurd hc (by decide)
      unfold intO
      simp only []
      rw [if_neg h45, if_neg (by
        rintro (h | h)
        · omega
        · exact hz c r hd h), if_pos ha, hv, if_pos hu]
      congr 1; omega

end Go.Proofs.YtgmjhoppjjjilaaDoor

/- digits as words -/
namespace Go.Proofs.YtgmjhoppjjjilaaDoor
open Go

theorem intO_back {l : List UInt8} {v : Int} (h : intO l = some v) : Lib.itoa v = l ∧ -9223372036854775808 ≤ v ∧ v ≤ 9223372036854775807 := by
  unfold intO at h
  split at h
  · cases h
  · rename_i c r
    split at h
    · rename_i hc
      split at h
      · cases h
      · rename_i hn
        split at h
        · rename_i ha
          split at h
          · rename_i hle
            injection h with h
            obtain ⟨h1, h2⟩ := dec_decV r.length r rfl (fun e => hn (.inl e)) ha (fun e => hn (.inr (.inr e)))
            subst h
            rw [Lib.itoa_neg _ h2, h1, hc]
            exact ⟨rfl, by omega, by omega⟩
          · cases h
        · cases h
    · rename_i hc
      split at h
      · cases h
      · rename_i hn
        split at h
        · rename_i ha
          split at h
          · rename_i hlt
            injection h with h
            subst h
            rw [Lib.itoa_nonneg]
            refine ⟨?_, by omega, by omega⟩
            by_cases h48 : c = 48
            · have hr : r = [] := by
                by_cases hr : r = []
                · exact hr
                · exact absurd (.inr ⟨h48, hr⟩) hn
              subst hr h48
              decide +kernel
            · exact (dec_decV (c :: r).length (c :: r) rfl (by simp) ha (by intro e; injection e with e; exact h48 e)).1
          · cases h
        · cases h

theorem parse_itoa (n : Int) (h1 : -9223372036854775808 ≤ n) (h2 : n ≤ 9223372036854775807) : Lib.parseIntB 64 (Lib.itoa n) = .ok n := by
  rw [Lib.parseIntB_64]
  have hmag : ∀ u : Nat, u ≤ 9223372036854775808 → Lib.parseMag (Lib.decDigits u) = .ok u := by
    intro u hu
    unfold Lib.parseMag
    rw [if_neg (dec_ne u), parse_dig 0 _ (dec_all u) (by rw [decV_dec]; omega), decV_dec]
  unfold Lib.itoa
  split
  · rw [Lib.atoiAll_minus, hmag _ (by omega)]
    unfold Lib.signed
    simp only []
    rw [if_neg (by omega)]
    congr 1; omega
  · have hm := hmag n.toNat (by omega)
    have ha := dec_all n.toNat
    cases hd : Lib.decDigits n.toNat with
    | nil => exact absurd hd (dec_ne _)
    | cons c r =>
      rw [hd] at hm ha
      rw [List.all_cons, Bool.and_eq_true] at ha
      have hc := (digB_iff c).1 ha.1
      rw [Lib.atoiAll_plain c r (by omega) (by omega), hm]
      unfold Lib.signless
      simp only []
      rw [if_neg (by omega)]
      congr 1; omega

theorem numO_int {l : List UInt8} (hr : runP digB l 1 = l.length) : numO l = match intO l with | some v => some (⟨2, ofL l, v, 0, 0⟩, l.length) | none => none := by
  have hl : numL l = l := by unfold numL; rw [hr, List.take_of_length_le (Nat.le_refl _)]
  unfold numO
  rw [hl, hr]
  cases hi : intO l with
  | some v =>
    obtain ⟨h1, h2, h3⟩ := intO_back hi
    have hp := parse_itoa v h2 h3
    rw [h1] at hp
    rw [hp]
    simp only []
    rw [if_pos h1]
  | none =>
    cases hp : Lib.parseIntB 64 l with
    | ok v =>
      simp only []
      rw [if_neg]
      intro e
      have hb := Lib.parseIntB_bounds hp
      have := intO_itoa v (by omega) (by omega)
      rw [e, hi] at this
      cases this
    | _ => rfl

theorem takeWhile_all {P : UInt8 → Bool} : ∀ r : List UInt8, r.all P = true → r.takeWhile P = r
  | [], _ => rfl
  | c :: r, h => by
    rw [List.all_cons, Bool.and_eq_true] at h
    rw [List.takeWhile_cons_of_pos h.1, takeWhile_all r h.2]

theorem runP_all : ∀ (l : List UInt8), (l.drop 1).all digB = true → l ≠ [] → runP digB l 1 = l.length
  | [], _, h => absurd rfl h
  | c :: r, h, _ => by
    unfold runP
    simp only [List.drop_succ_cons, List.drop_zero] at h ⊢
    rw [takeWhile_all r h, List.length_cons]
    omega

/-- digits, perhaps behind a - -/
def Dgs (l : List UInt8) : Prop := (l.drop 1).all digB = true ∧ (∀ c r, l = c :: r → c = 45 ∨ digB c = true)

theorem read_dgs (cn : Nat → Nat) {c : UInt8} {r : List UInt8} (h : c = 45 ∨ digB c = true) : readO cn (c :: r) = numO (c :: r) := by
  have h39 : c ≠ 39 := by rintro rfl; rcases h with h | h <;> exact absurd h (by decide)
  have h102 : c ≠ 102 := by rintro rfl; rcases h with h | h <;> exact absurd h (by decide)
  unfold readO
  simp only []
  rw [if_neg (by simp [List.isPrefixOf]; intro e; exact absurd e.symm h102), if_neg h39, if_pos h]

theorem spc_first {c : UInt8} {r : List UInt8} (h : c ≠ 32) : runP spcB (c :: r) 0 = 0 :=
  runP_stop (P := spcB) (l := c :: r) (k := 0) (by simp) (by show spcB c = false; unfold spcB; have := u8_ne (k := 32) h; exact decide_eq_false this)

theorem words_dgs (cn : Nat → Nat) (l : List UInt8) (h : Dgs l) (hne : l ≠ []) (hlen : l.length ≤ 3000) :
    wdsO cn l = match intO l with | some v => ([⟨2, ofL l, v, 0, 0⟩, ⟨0, ⟨#[]⟩, 0, 0, l.length⟩], 0, 0) | none => ([], 0, 110) := by
  cases l with
  | nil => exact absurd rfl hne
  | cons c r =>
    have hc := h.2 c r rfl
    have h32 : c ≠ 32 := by rintro rfl; rcases hc with h | h <;> exact absurd h (by decide)
    have hnum := numO_int (runP_all (c :: r) h.1 hne)
    unfold wdsO
    rw [if_neg (by omega), spc_first h32]
    cases hi : intO (c :: r) with
    | some v =>
      rw [hi] at hnum
      rw [wdsGo_step (a := 0) (x := ⟨2, ofL (c :: r), v, 0, 0⟩) (n := (c :: r).length) (b := (c :: r).length) (by simp) (by rw [List.drop_zero, read_dgs cn hc, hnum]) (by rw [Nat.zero_add, runP_end (Nat.le_refl _)])]
      have := wdsGo_end (cn := cn) (l := c :: r) (fu := r.length) (acc := [] ++ [({ (⟨2, ofL (c :: r), v, 0, 0⟩ : Wd) with at_ := 0 })]) (by simp)
      rw [show (c :: r).length = r.length + 1 from rfl] at this ⊢
      rw [this]
      rfl
    | none =>
      rw [hi] at hnum
      rw [wdsGo, if_pos (by simp), List.drop_zero, read_dgs cn hc, hnum]

theorem words_none (cn : Nat → Nat) : wdsO cn [] = ([⟨0, ⟨#[]⟩, 0, 0, 0⟩], 0, 0) := rfl

end Go.Proofs.YtgmjhoppjjjilaaDoor
