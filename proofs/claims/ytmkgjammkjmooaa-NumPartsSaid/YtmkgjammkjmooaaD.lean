/- contracts: the reference's Canon, Key, Less, Cmp; num.Float; NumKeys, NumOrder -/
import Derived.Test.YtmkgjammkjmooaaC
import Derived.Test.YtmkgjammkjmooaaG
namespace Go.Proofs.Ytmkgjammkjmooaa
open Go.ChangeShapes Go.WideShapes Go.ChangeAt Go.RowKit Go.Fl

theorem rcanon_any (b : Nat) (w : World) :
    Calls Try.prog 23 #[.float .f64 b] w fun e w' => e = .returned (.int .u64 (canonN b)) ∧ w = w' := by
  unfold canonN
  have hf := call_bits
  rcases h : nanB b with _ | _
  · have h1 : (FloatKind.f64.format.order b b != some .eq) = false := h
    clear h
    go_enter Try.func23, Try.ntmps23
    go_wp2
    go_ret
    exact ⟨rfl, rfl⟩
  · have h1 : (FloatKind.f64.format.order b b != some .eq) = true := h
    clear h
    go_enter Try.func23, Try.ntmps23
    go_wp2
    go_ret
    exact ⟨rfl, rfl⟩
theorem rkey_any (b : Nat) (w : World) (hb : b < 18446744073709551616) :
    Calls Try.prog 21 #[.float .f64 b] w fun e w' => e = .returned (.int .u64 (keyN b)) ∧ w = w' := by
  have hc0 := canonN_lt b hb
  unfold keyN
  generalize hc : canonN b = c at hc0 ⊢
  have Hc := Lib.hid hc; clear hc
  by_cases h : 9223372036854775808 ≤ c
  · rw [if_pos h]
    have ht : decide ((9223372036854775808 : Int) ≤ (c : Int)) = true := by simp; omega
    have hs : IntKind.u64.wrap (18446744073709551615 - (c : Int)) = ((18446744073709551615 - c : Nat) : Int) := by rw [IntWalk.u64_in _ (by omega)]; omega
    have Hs := Lib.hid hs; clear hs h
    go_enter Try.func21, Try.ntmps21
    go_wp2_with fail
    refine (rcanon_any _ _).mono ?_
    rintro e w' ⟨rfl, rfl⟩
    rw [Hc.out]
    go_wp2
    go_ret
    exact ⟨ret_int (by omega), rfl⟩
  · rw [if_neg h]
    have ht : decide ((9223372036854775808 : Int) ≤ (c : Int)) = false := by simp; omega
    go_enter Try.func21, Try.ntmps21
    go_wp2_with fail
    refine (rcanon_any _ _).mono ?_
    rintro e w' ⟨rfl, rfl⟩
    rw [Hc.out]
    go_wp2
    go_ret
    exact ⟨ret_int (by omega), rfl⟩
theorem signbit_any (b : Nat) (w : World) (hb : b < 18446744073709551616) :
    Calls Try.prog 41 #[.float .f64 b] w fun e w' => e = .returned (.bool (neg b)) ∧ w = w' := by
  have hf := call_bits
  have e1 : neg b = decide (wrap64 (b : Int) < 0) := by unfold neg wrap64; rw [Bool.eq_iff_iff]; simp; omega
  rw [e1]; clear e1
  go_enter Try.func41, Try.ntmps41
  go_wp2
  go_ret
  exact ⟨rfl, rfl⟩
theorem nat_beq (f c : Nat) (d : Int) (h : (c : Int) = d) : (f == c) = ((f : Int) == d) := by
  subst h; rw [Bool.eq_iff_iff]; simp only [beq_iff_eq]; omega
theorem big_no : ((9221120237041090561 : Nat) : Int) = 9221120237041090561 := by decide
theorem float_any (k : Nat) (w : World) (hk : k < 18446744073709551616) :
    Calls Try.prog 19 #[.int .u64 k] w fun e w' => e = .returned (.tuple #[.float .f64 (floatN k), .bool (isKey k)]) ∧ w = w' := by
  unfold isKey
  rw [nat_beq (floatN k) 9221120237041090561 _ big_no]
  by_cases h : 9223372036854775808 ≤ k
  · have e1 : floatN k = k - 9223372036854775808 := by unfold floatN; rw [if_pos h]
    have ht : (bits .and .u64 (k : Int) 9223372036854775808 != 0) = true := by rw [and_hi k hk, if_pos h]; decide
    have hx : bits .xor .u64 (k : Int) 9223372036854775808 = (floatN k : Int) := by rw [e1]; exact xor_hi k hk h
    have hf : ∀ w, (callFunc 34 #[.int .u64 (bits .xor .u64 (k : Int) 9223372036854775808)]).run Try.prog w = .ok (.value (.float .f64 (floatN k))) w := by
      intro w; rw [hx]; exact call_from _ w
    rw [← hx]
    clear e1 hx h
    generalize floatN k = f at *
    rcases hb : (bits .xor .u64 (k : Int) 9223372036854775808 == 9221120237041090561) with _ | _
    · go_enter Try.func19, Try.ntmps19
      go_wp2_with (go_at_call 35; refine (isnan_any _ _).mono ?_; rintro e w' ⟨rfl, rfl⟩)
      go_ret2
      exact ⟨rfl, rfl⟩
    · go_enter Try.func19, Try.ntmps19
      go_wp2
      go_ret2
      exact ⟨rfl, rfl⟩
  · have e1 : floatN k = 18446744073709551615 - k := by unfold floatN; rw [if_neg h]
    have ht : (bits .and .u64 (k : Int) 9223372036854775808 != 0) = false := by rw [and_hi k hk, if_neg h]; decide
    have hx : bits .xor .u64 IntKind.u64.max (k : Int) = (floatN k : Int) := by rw [e1]; exact not_u64 k hk
    have hf : ∀ w, (callFunc 34 #[.int .u64 (bits .xor .u64 IntKind.u64.max (k : Int))]).run Try.prog w = .ok (.value (.float .f64 (floatN k))) w := by
      intro w; rw [hx]; exact call_from _ w
    rw [← hx]
    clear e1 hx h
    generalize floatN k = f at *
    rcases hb : (bits .xor .u64 IntKind.u64.max (k : Int) == 9221120237041090561) with _ | _
    · go_enter Try.func19, Try.ntmps19
      go_wp2_with (go_at_call 35; refine (isnan_any _ _).mono ?_; rintro e w' ⟨rfl, rfl⟩)
      go_ret2
      exact ⟨rfl, rfl⟩
    · go_enter Try.func19, Try.ntmps19
      go_wp2
      go_ret2
      exact ⟨rfl, rfl⟩

/-- the reference's Less is the keys' order -/
theorem less_any (a b : Nat) (w : World) (ha : a < 18446744073709551616) (hb : b < 18446744073709551616) :
    Calls Try.prog 36 #[.float .f64 a, .float .f64 b] w fun e w' => e = .returned (.bool (decide (keyN a < keyN b))) ∧ w = w' := by
  rcases na : nanB a with _ | _
  · have h1 : (FloatKind.f64.format.order a a != some .eq) = false := na
    have h1' : (FloatKind.f64.format.order a a == some .eq) = true := by simpa using h1
    rcases nb : nanB b with _ | _
    · have h2 : (FloatKind.f64.format.order b b != some .eq) = false := nb
      have kl := key_lt_num ha hb na nb
      have n0 : nanB 0 = false := by decide +kernel
      have za : (FloatKind.f64.format.order a 0 == some .eq) = decide (rung a = 0) := by
        refine (eqB_eq ha (by decide) na n0).trans ?_
        have s0 : srung 0 = 0 := by decide
        rw [s0, Bool.eq_iff_iff]; unfold srung sgn; cases neg a <;> simp
      have zb : (FloatKind.f64.format.order b 0 == some .eq) = decide (rung b = 0) := by
        refine (eqB_eq hb (by decide) nb n0).trans ?_
        have s0 : srung 0 = 0 := by decide
        rw [s0, Bool.eq_iff_iff]; unfold srung sgn; cases neg b <;> simp
      have hlt : (FloatKind.f64.format.order a b == some .lt) = decide (srung a < srung b) := ltB_eq ha hb na nb
      by_cases hz : rung a = 0 ∧ rung b = 0
      · rw [decide_eq_true hz.1] at za
        rw [decide_eq_true hz.2] at zb
        have e1 : decide (keyN a < keyN b) = (neg a && !neg b) := by
          rw [Bool.eq_iff_iff, decide_eq_true_eq, kl]
          simp only [srung, sgn, hz.1, hz.2]
          cases neg a <;> cases neg b <;> simp
        rw [e1]
        clear e1 hlt kl na nb n0 hz
        have Ha := Lib.hid ha; have Hb := Lib.hid hb; clear ha hb
        rcases sa : neg a with _ | _
        · have Sa := Lib.hid sa; clear sa
          go_enter Try.func36, Try.ntmps36
          go_wp2_with fail
          refine (signbit_any _ _ Ha.out).mono ?_
          rw [Sa.out]
          rintro e w' ⟨rfl, rfl⟩
          go_wp2
          go_ret
          exact ⟨rfl, rfl⟩
        · have Sa := Lib.hid sa; clear sa
          go_enter Try.func36, Try.ntmps36
          go_wp2_with fail
          refine (signbit_any _ _ Ha.out).mono ?_
          rw [Sa.out]
          rintro e w' ⟨rfl, rfl⟩
          go_wp2_with fail
          refine (signbit_any _ _ Hb.out).mono ?_
          rintro e w' ⟨rfl, rfl⟩
          go_wp2
          go_ret
          exact ⟨rfl, rfl⟩
      · have e1 : decide (keyN a < keyN b) = (FloatKind.f64.format.order a b == some .lt) := by
          rw [hlt, Bool.eq_iff_iff, decide_eq_true_eq, decide_eq_true_eq, kl]
          constructor
          · rintro (h | ⟨x, y, -⟩)
            · exact h
            · exact absurd ⟨x, y⟩ hz
          · exact Or.inl
        rw [e1]
        clear e1 hlt kl na nb n0 ha hb
        by_cases hz1 : rung a = 0
        · rw [decide_eq_true hz1] at za
          rw [decide_eq_false (fun h => hz ⟨hz1, h⟩)] at zb
          clear hz hz1
          go_enter Try.func36, Try.ntmps36
          go_wp2
          go_ret
          exact ⟨rfl, rfl⟩
        · rw [decide_eq_false hz1] at za
          clear hz hz1 zb
          go_enter Try.func36, Try.ntmps36
          go_wp2
          go_ret
          exact ⟨rfl, rfl⟩
    · have h2 : (FloatKind.f64.format.order b b != some .eq) = true := nb
      rw [decide_eq_true (key_num_lt_nan ha na nb)]
      clear na nb ha hb
      go_enter Try.func36, Try.ntmps36
      go_wp2
      go_ret
      exact ⟨rfl, rfl⟩
  · have h1 : (FloatKind.f64.format.order a a != some .eq) = true := na
    have h1' : (FloatKind.f64.format.order a a == some .eq) = false := by simpa using h1
    have e1 : decide (keyN a < keyN b) = false := by
      rcases nb : nanB b with _ | _
      · have := key_num_lt_nan hb nb na; simp; omega
      · rw [keyN_nan na, keyN_nan nb]; decide
    rw [e1]
    clear e1 na ha hb
    go_enter Try.func36, Try.ntmps36
    go_wp2
    go_ret
    exact ⟨rfl, rfl⟩
theorem rcmp_any (a b : Nat) (w : World) (ha : a < 18446744073709551616) (hb : b < 18446744073709551616) :
    Calls Try.prog 25 #[.float .f64 a, .float .f64 b] w fun e w' => e = .returned (.int .i64 (cmpN a b)) ∧ w = w' := by
  have Ha := Lib.hid ha; have Hb := Lib.hid hb; clear ha hb
  rcases Nat.lt_trichotomy (keyN a) (keyN b) with h | h | h
  · rw [cmp_lt h]
    have ht : decide (keyN a < keyN b) = true := by simpa using h
    have Ht := Lib.hid ht; clear h ht
    go_enter Try.func25, Try.ntmps25
    go_wp2_with fail
    refine (less_any _ _ _ Ha.out Hb.out).mono ?_
    rw [Ht.out]
    rintro e w' ⟨rfl, rfl⟩
    go_wp2
    go_ret
    exact ⟨rfl, rfl⟩
  · rw [cmp_eq h]
    have ht : decide (keyN a < keyN b) = false := by simp; omega
    have ht' : decide (keyN b < keyN a) = false := by simp; omega
    have Ht := Lib.hid ht; have Ht' := Lib.hid ht'; clear h ht ht'
    go_enter Try.func25, Try.ntmps25
    go_wp2_with fail
    refine (less_any _ _ _ Ha.out Hb.out).mono ?_
    rw [Ht.out]
    rintro e w' ⟨rfl, rfl⟩
    go_wp2_with fail
    refine (less_any _ _ _ Hb.out Ha.out).mono ?_
    rw [Ht'.out]
    rintro e w' ⟨rfl, rfl⟩
    go_wp2
    go_ret
    exact ⟨rfl, rfl⟩
  · rw [cmp_gt h]
    have ht : decide (keyN a < keyN b) = false := by simp; omega
    have ht' : decide (keyN b < keyN a) = true := by simpa using h
    have Ht := Lib.hid ht; have Ht' := Lib.hid ht'; clear h ht ht'
    go_enter Try.func25, Try.ntmps25
    go_wp2_with fail
    refine (less_any _ _ _ Ha.out Hb.out).mono ?_
    rw [Ht.out]
    rintro e w' ⟨rfl, rfl⟩
    go_wp2_with fail
    refine (less_any _ _ _ Hb.out Ha.out).mono ?_
    rw [Ht'.out]
    rintro e w' ⟨rfl, rfl⟩
    go_wp2
    go_ret
    exact ⟨rfl, rfl⟩

theorem keys_any (b k : Nat) (w : World) (hb : b < 18446744073709551616) (hk : k < 18446744073709551616) :
    Calls Try.prog 5 #[.float .f64 b, .int .u64 k] w fun e w' => e = .returned (.bool true) ∧ w = w' := by
  have f1 := floatN_key hb
  have f2 := isKey_key hb
  have f3 := isKey_iff hk
  have hkb := keyN_lt b
  have hfk := floatN_lt hk
  have hq : isKey k = (((keyN (floatN k) : Nat) : Int) == (k : Int)) := by rw [f3]; exact nat_beq _ _ _ rfl
  have Hb := Lib.hid hb; have Hk := Lib.hid hk; have F1 := Lib.hid f1; have F2 := Lib.hid f2; have F3 := Lib.hid hq; have Hkb := Lib.hid hkb; have Hfk := Lib.hid hfk
  clear hb hk f1 f2 f3 hq hkb hfk
  have hf := call_bits
  go_enter Try.func5, Try.ntmps5
  go_wp2_with fail
  refine (key_any _ _ Hb.out).mono ?_
  rintro e w' ⟨rfl, rfl⟩
  go_wp2_with fail
  refine (float_any _ _ Hkb.out).mono ?_
  rw [F1.out, F2.out]
  rintro e w' ⟨rfl, rfl⟩
  go_wp2_with fail
  refine (float_any _ _ Hk.out).mono ?_
  rintro e w' ⟨rfl, rfl⟩
  go_wp2_with fail
  refine (awake_any _).mono ?_
  rintro e w' ⟨rfl, rfl⟩
  go_wp2_with fail
  refine (key_any _ _ Hb.out).mono ?_
  rintro e w' ⟨rfl, rfl⟩
  go_wp2_with fail
  refine (rkey_any _ _ Hb.out).mono ?_
  rintro e w' ⟨rfl, rfl⟩
  go_wp2_with fail
  refine (rcanon_any _ _).mono ?_
  rintro e w' ⟨rfl, rfl⟩
  go_wp2_with fail
  refine (rkey_any _ _ Hfk.out).mono ?_
  rintro e w' ⟨rfl, rfl⟩
  rw [F3.out]
  go_wp2_with fail
  refine (canon_any _ _).mono ?_
  rintro e w' ⟨rfl, rfl⟩
  go_wp2_with fail
  refine (rcanon_any _ _).mono ?_
  rintro e w' ⟨rfl, rfl⟩
  go_wp2
  go_ret
  exact ⟨rfl, rfl⟩

theorem keys_wf (b : Nat) (k : Int) (w : World) (hb : (Lit.float .f64 b).wf = true) (hk : (Lit.int .u64 k).wf = true) :
    Calls Try.prog 5 #[.float .f64 b, .int .u64 k] w fun e w' => e = .returned (.bool true) ∧ w = w' := by
  have hk' := bounds_u64 hk
  obtain ⟨n, rfl⟩ := Int.eq_ofNat_of_zero_le hk'.1
  exact keys_any b n w (f64_wf hb) (by omega)

theorem cmp_turn (a b : Nat) : cmpN b a = -cmpN a b := by
  rcases Nat.lt_trichotomy (keyN a) (keyN b) with h | h | h
  · rw [cmp_lt h, cmp_gt h]; rfl
  · rw [cmp_eq h, cmp_eq h.symm]; rfl
  · rw [cmp_lt h, cmp_gt h]
theorem cmp_cases (a b : Nat) : -1 ≤ cmpN a b ∧ cmpN a b ≤ 1 := by
  unfold cmpN; split
  · omega
  · split <;> omega
theorem cmp_neg (a b : Nat) : decide (keyN a < keyN b) = decide (cmpN a b < 0) := by
  rcases Nat.lt_trichotomy (keyN a) (keyN b) with h | h | h
  · rw [cmp_lt h, decide_eq_true h]; rfl
  · rw [cmp_eq h, decide_eq_false (by omega)]; rfl
  · rw [cmp_gt h, decide_eq_false (by omega)]; rfl
theorem cmp_zero (a b : Nat) : (((keyN a : Nat) : Int) == ((keyN b : Nat) : Int)) = (cmpN a b == 0) := by
  rcases Nat.lt_trichotomy (keyN a) (keyN b) with h | h | h
  · rw [cmp_lt h, Bool.eq_iff_iff]; simp; omega
  · rw [cmp_eq h, Bool.eq_iff_iff]; simp; omega
  · rw [cmp_gt h, Bool.eq_iff_iff]; simp; omega
theorem order_any (a b : Nat) (w : World) (ha : a < 18446744073709551616) (hb : b < 18446744073709551616) :
    Calls Try.prog 6 #[.float .f64 a, .float .f64 b] w fun e w' => e = .returned (.bool true) ∧ w = w' := by
  have Ha := Lib.hid ha; have Hb := Lib.hid hb; clear ha hb
  have t1 := Lib.hid (cmp_turn a b)
  have t2 := Lib.hid (cmp_neg a b)
  have t3 := Lib.hid (cmp_zero a b)
  obtain ⟨c1, c2⟩ := cmp_cases a b
  go_enter Try.func6, Try.ntmps6
  go_wp2_with fail
  refine (rcmp_any _ _ _ Ha.out Hb.out).mono ?_
  rintro e w' ⟨rfl, rfl⟩
  go_wp2_with fail
  refine (key_any _ _ Ha.out).mono ?_
  rintro e w' ⟨rfl, rfl⟩
  go_wp2_with fail
  refine (key_any _ _ Hb.out).mono ?_
  rintro e w' ⟨rfl, rfl⟩
  go_wp2_with fail
  refine (awake_any _).mono ?_
  rintro e w' ⟨rfl, rfl⟩
  go_wp2_with fail
  refine (cmp_any _ _ _ Ha.out Hb.out).mono ?_
  rintro e w' ⟨rfl, rfl⟩
  go_wp2_with fail
  refine (cmp_any _ _ _ Hb.out Ha.out).mono ?_
  rw [t1.out]
  rintro e w' ⟨rfl, rfl⟩
  have t2' := t2.out
  have t3' := t3.out
  go_wp2
  go_ret
  exact ⟨rfl, rfl⟩
end Go.Proofs.Ytmkgjammkjmooaa
