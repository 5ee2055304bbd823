/- contracts: num.Whole and the reference's Whole -/
import Derived.Test.YtmkgjammkjmooaaD
import Derived.Test.YtmkgjammkjmooaaH
namespace Go.Fl
open Ieee
/-- within int64's range, as Go's comparisons say it -/
def inRng (b : Nat) : Bool := (FloatKind.f64.format.order b 14114281232179134464 == some .gt || FloatKind.f64.format.order b 14114281232179134464 == some .eq) && FloatKind.f64.format.order b 4890909195324358656 == some .lt
theorem svals : sval 14114281232179134464 = -9223372036854775808 * (S : Int) ∧ sval 4890909195324358656 = 9223372036854775808 * (S : Int) := by
  have e1 : ladder 4890909195324358656 = 9223372036854775808 * S := by
    obtain ⟨t, ht⟩ : ∃ t, t = 1085 := ⟨_, rfl⟩
    obtain ⟨q, hq⟩ : ∃ q, q = 1074 := ⟨_, rfl⟩
    have h := ladder_at t 4503599627370496 (by decide) (by decide)
    rw [show t * 4503599627370496 + 4503599627370496 = 4890909195324358656 from by omega] at h
    rw [h, S_eq q hq, show (4503599627370496 : Nat) = 2 ^ 52 from by decide, show (9223372036854775808 : Nat) = 2 ^ 63 from by decide, ← Nat.pow_add, ← Nat.pow_add, show 52 + t = 63 + q from by omega]
  have a1 : rung 14114281232179134464 = 4890909195324358656 := by decide
  have a2 : rung 4890909195324358656 = 4890909195324358656 := by decide
  have a3 : neg 14114281232179134464 = true := by decide
  have a4 : neg 4890909195324358656 = false := by decide
  unfold sval; rw [a1, a2, a3, a4, e1]
  unfold sgn
  simp [Int.neg_mul]
theorem inRng_facts {b : Nat} (hb : b < 18446744073709551616) (h : inRng b = true) : nanB b = false ∧ rung b < 9218868437227405312 ∧ -9223372036854775808 * (S : Int) ≤ sval b ∧ sval b < 9223372036854775808 * (S : Int) := by
  obtain ⟨s1, s2⟩ := svals
  unfold inRng at h
  rw [Bool.and_eq_true] at h
  have n1 : nanB 14114281232179134464 = false := by decide +kernel
  have n2 : nanB 4890909195324358656 = false := by decide +kernel
  have hn : nanB b = false := by
    rcases hn : nanB b with _ | _
    · rfl
    · have := order_nan_l (b := 4890909195324358656) hb ((nan_iff hb).1 hn)
      have h2 := h.2
      rw [show FloatKind.f64.format.order b 4890909195324358656 = double.order b 4890909195324358656 from rfl, this] at h2
      simp at h2
  have h1 := h.1; have h2 := h.2
  rw [order_sval hb (by decide) hn n1, s1] at h1
  rw [order_sval hb (by decide) hn n2, s2] at h2
  simp [compare_lt_iff] at h2
  simp [compare_gt_iff] at h1
  refine ⟨hn, ?_, by omega, h2⟩
  apply Nat.lt_of_not_le; intro hc
  have hr : rung b = 9218868437227405312 := by have := (nan_iff' hb).1 hn; omega
  have hl := @ladder_lt 4890909195324358656 9218868437227405312 (by decide)
  have e1 : (ladder 4890909195324358656 : Int) = 9223372036854775808 * (S : Int) := by
    have a2 : rung 4890909195324358656 = 4890909195324358656 := by decide
    have a4 : neg 4890909195324358656 = false := by decide
    unfold sval at s2; rw [a2, a4] at s2; simpa [sgn] using s2
  unfold sval at h1 h2
  rw [hr] at h1 h2
  unfold sgn at h1 h2
  generalize ladder 9218868437227405312 = p at *
  generalize ladder 4890909195324358656 = q at *
  cases neg b <;> (try simp only [if_true, Bool.false_eq_true, if_false] at h1 h2) <;> omega
def wholeB (b : Nat) : Bool := inRng b && !frac b
def ival (b : Nat) : Int := sgn (neg b) (part b)
def wholeI (b : Nat) : Int := if wholeB b then ival b else 0
theorem whole_facts {b : Nat} (hb : b < 18446744073709551616) (h : wholeB b = true) : sval b = ival b * (S : Int) ∧ -9223372036854775808 ≤ ival b ∧ ival b ≤ 9223372036854775807 ∧ Fit (ival b) := by
  unfold wholeB at h
  rw [Bool.and_eq_true] at h
  obtain ⟨h1, h2, h3, h4⟩ := inRng_facts hb h.1
  have hf : ladder (rung b) % S = 0 := by have := h.2; unfold frac at this; simpa using this
  have hl : ladder (rung b) = part b * S := by have := part_frac b; omega
  have e : sval b = ival b * (S : Int) := by unfold sval ival; rw [hl, sgn_mul]
  rw [e] at h3 h4
  have a1 := mul_S_lt.1 h4
  have a2 : -9223372036854775808 ≤ ival b := by
    apply Int.not_lt.1; intro hc
    have := mul_S_lt.2 hc
    omega
  refine ⟨e, a2, by omega, rung b, h2, ?_⟩
  have e3 : (ival b).natAbs = part b := by unfold ival sgn; cases neg b <;> simp
  rw [e3, hl]
theorem whole_eq {b : Nat} (hb : b < 18446744073709551616) (h : wholeB b = true) : (FloatKind.f64.format.order (fw (ival b)) b == some .eq) = true := by
  obtain ⟨h1, h2, h3, h4⟩ := whole_facts hb h
  have hn : nanB b = false := by unfold wholeB at h; rw [Bool.and_eq_true] at h; exact (inRng_facts hb h.1).1
  rw [order_sval (fw_facts h4).1 hb (nan_fw h4) hn, sval_fw h4, h1, compare_self]; rfl
theorem whole_conv {b : Nat} (hb : b < 18446744073709551616) (h : wholeB b = true) : floatToIntVal .f64 b .i64 = some (ival b) := by
  obtain ⟨h1, h2, h3, h4⟩ := whole_facts hb h
  have h' := h
  unfold wholeB at h'; rw [Bool.and_eq_true] at h'
  unfold floatToIntVal
  rw [toInt_eq hb (inRng_facts hb h'.1).2.1]
  have e1 : IntKind.i64.min = -9223372036854775808 := by decide
  have e2 : IntKind.i64.max = 9223372036854775807 := by decide
  simp only [e1, e2]
  rw [if_pos]; · rfl
  exact ⟨h2, h3⟩
end Go.Fl
namespace Go.Proofs.Ytmkgjammkjmooaa
open Go.ChangeShapes Go.WideShapes Go.ChangeAt Go.RowKit Go.Fl

theorem integral_num (name : String) (way : Ieee.Toward) (b : Nat) (s m i) (h : FloatKind.f64.decode b = .number s m i) : Extern.MathFloor.toIntegral name way #[.float .f64 b] = pure (.float .f64 (FloatKind.f64.encode ((FloatKind.f64.decode b).integral way))) := by
  unfold Extern.MathFloor.toIntegral
  generalize FloatKind.f64.decode = dec at *
  rw [h]
  conv => lhs; whnf
  rw [h]
theorem call_trunc (b : Nat) (hb : b < 18446744073709551616) (hf : rung b < 9218868437227405312) (w : World) : (callFunc 44 #[.float .f64 b]).run Try.prog w = .ok (.value (.float .f64 (truncW b))) w := by
  refine (run_callFunc_extern (fn := Try.f44) (e := Extern.MathFloor.toIntegral "math.archTrunc" .zero) (by kernel_rfl) (by kernel_rfl) (by kernel_rfl) (by kernel_rfl) (by kernel_rfl) _ w).trans ?_
  obtain ⟨m, k, e1, -, -⟩ := read_fin hb hf
  have e2 : FloatKind.f64.decode b = .number (neg b) m ((k : Int) - 1074) := e1
  rw [integral_num _ _ _ _ _ _ e2]
  rfl
theorem call_floor (b : Nat) (hb : b < 18446744073709551616) (hf : rung b < 9218868437227405312) (w : World) : (callFunc 46 #[.float .f64 b]).run Try.prog w = .ok (.value (.float .f64 (floorW b))) w := by
  refine (run_callFunc_extern (fn := Try.f46) (e := Extern.MathFloor.toIntegral "math.archFloor" .down) (by kernel_rfl) (by kernel_rfl) (by kernel_rfl) (by kernel_rfl) (by kernel_rfl) _ w).trans ?_
  obtain ⟨m, k, e1, -, -⟩ := read_fin hb hf
  have e2 : FloatKind.f64.decode b = .number (neg b) m ((k : Int) - 1074) := e1
  rw [integral_num _ _ _ _ _ _ e2]
  rfl
theorem trunc_any (b : Nat) (w : World) (hb : b < 18446744073709551616) (hf : rung b < 9218868437227405312) :
    Calls Try.prog 39 #[.float .f64 b] w fun e w' => e = .returned (.float .f64 (truncW b)) ∧ w = w' := by
  have hc := call_trunc b hb hf
  clear hb hf
  go_enter Try.func39, Try.ntmps39
  go_wp2
  go_ret
  exact ⟨rfl, rfl⟩
theorem floor_any (b : Nat) (w : World) (hb : b < 18446744073709551616) (hf : rung b < 9218868437227405312) :
    Calls Try.prog 40 #[.float .f64 b] w fun e w' => e = .returned (.float .f64 (floorW b)) ∧ w = w' := by
  have hc := call_floor b hb hf
  clear hb hf
  go_enter Try.func40, Try.ntmps40
  go_wp2
  go_ret
  exact ⟨rfl, rfl⟩
theorem wh_no {b : Nat} (h : wholeB b = false) : wholeI b = 0 := by unfold wholeI; rw [h]; rfl
theorem wh_yes {b : Nat} (h : wholeB b = true) : wholeI b = ival b := by unfold wholeI; rw [h]; rfl
theorem order_self_nan {b : Nat} (h : nanB b = true) : (FloatKind.f64.format.order b b != some .eq) = true := h
theorem nan_order {b : Nat} (hb : b < 18446744073709551616) (h : nanB b = true) (c : Nat) : FloatKind.f64.format.order b c = none := order_nan_l hb ((nan_iff hb).1 h)
theorem num_order {a b : Nat} (ha : a < 18446744073709551616) (hb : b < 18446744073709551616) (na : nanB a = false) (nb : nanB b = false) :
    FloatKind.f64.format.order a b = some .lt ∨ FloatKind.f64.format.order a b = some .eq ∨ FloatKind.f64.format.order a b = some .gt := by
  rw [order_sval ha hb na nb]
  cases compare (sval a) (sval b) <;> simp
theorem n_least : nanB 14114281232179134464 = false := by decide +kernel
theorem n_top : nanB 4890909195324358656 = false := by decide +kernel

theorem whole_any (b : Nat) (w : World) (hb : b < 18446744073709551616) :
    Calls Try.prog 29 #[.float .f64 b] w fun e w' => e = .returned (.tuple #[.int .i64 (wholeI b), .bool (wholeB b)]) ∧ w = w' := by
  rcases hn : nanB b with _ | _
  · rcases num_order hb (by decide) hn n_least with h1 | h1 | h1
    · have hw : wholeB b = false := by unfold wholeB inRng; rw [h1]; rfl
      rw [wh_no hw, hw]; clear hn hb hw
      go_enter Try.func29, Try.ntmps29
      go_wp2
      go_ret2
      exact ⟨rfl, rfl⟩
    all_goals
      rcases num_order hb (by decide) hn n_top with h2 | h2 | h2
      · have hr : inRng b = true := by unfold inRng; rw [h1, h2]; rfl
        obtain ⟨-, hf, -, -⟩ := inRng_facts hb hr
        obtain ⟨t1, t2, t3⟩ := trunc_eq hb hf
        have Hb := Lib.hid hb; have Hf := Lib.hid hf
        rcases hfr : frac b with _ | _
        · have hw : wholeB b = true := by unfold wholeB; rw [hr, hfr]; rfl
          have t3' : (FloatKind.f64.format.order b (truncW b) == some .eq) = true := by rw [hfr] at t3; exact t3
          have hc : ∀ w, (convert 27 2 (.float .f64 b)).run Try.prog w = .ok (.int .i64 (ival b)) w := fun w => run_convert_float_int w 27 2 .f64 .i64 b _ (by rw [Try.underlying27]; rfl) Try.underlying2 (whole_conv hb hw)
          rw [wh_yes hw, hw]; clear hn hb hw hf hr t1 t2 t3 hfr
          go_enter Try.func29, Try.ntmps29
          go_wp2_with (go_at_call 39; refine (trunc_any _ _ Hb.out Hf.out).mono ?_; rintro e w' ⟨rfl, rfl⟩)
          go_ret2
          exact ⟨rfl, rfl⟩
        · have hw : wholeB b = false := by unfold wholeB; rw [hr, hfr]; rfl
          have t3' : (FloatKind.f64.format.order b (truncW b) == some .eq) = false := by rw [hfr] at t3; exact t3
          rw [wh_no hw, hw]; clear hn hb hw hf hr t1 t2 t3 hfr
          go_enter Try.func29, Try.ntmps29
          go_wp2_with (go_at_call 39; refine (trunc_any _ _ Hb.out Hf.out).mono ?_; rintro e w' ⟨rfl, rfl⟩)
          go_ret2
          exact ⟨rfl, rfl⟩
      all_goals
        have hw : wholeB b = false := by unfold wholeB inRng; rw [h1, h2]; rfl
        rw [wh_no hw, hw]; clear hn hb hw
        go_enter Try.func29, Try.ntmps29
        go_wp2
        go_ret2
        exact ⟨rfl, rfl⟩
  · have h1 := nan_order hb hn 14114281232179134464
    have hw : wholeB b = false := by unfold wholeB inRng; rw [h1]; rfl
    rw [wh_no hw, hw]; clear hn hb hw
    go_enter Try.func29, Try.ntmps29
    go_wp2
    go_ret2
    exact ⟨rfl, rfl⟩

theorem rwhole_any (b : Nat) (w : World) (hb : b < 18446744073709551616) :
    Calls Try.prog 30 #[.float .f64 b] w fun e w' => e = .returned (.tuple #[.int .i64 (wholeI b), .bool (wholeB b)]) ∧ w = w' := by
  rcases hn : nanB b with _ | _
  · have h0 : (FloatKind.f64.format.order b b != some .eq) = false := hn
    rcases num_order hb (by decide) hn n_top with h2 | h2 | h2
    · rcases num_order hb (by decide) hn n_least with h1 | h1 | h1
      · have hw : wholeB b = false := by unfold wholeB inRng; rw [h1]; rfl
        rw [wh_no hw, hw]; clear hn hb hw
        go_enter Try.func30, Try.ntmps30
        go_wp2
        go_ret2
        exact ⟨rfl, rfl⟩
      all_goals
        have hr : inRng b = true := by unfold inRng; rw [h1, h2]; rfl
        obtain ⟨-, hf, -, -⟩ := inRng_facts hb hr
        obtain ⟨t1, t2, t3⟩ := floor_eq hb hf
        have Hb := Lib.hid hb; have Hf := Lib.hid hf
        rcases hfr : frac b with _ | _
        · have hw : wholeB b = true := by unfold wholeB; rw [hr, hfr]; rfl
          have t3' : (FloatKind.f64.format.order (floorW b) b != some .eq) = false := by rw [hfr] at t3; have t4 : (FloatKind.f64.format.order (floorW b) b == some .eq) = true := t3; simp only [bne, t4]; rfl
          have hc : ∀ w, (convert 27 2 (.float .f64 b)).run Try.prog w = .ok (.int .i64 (ival b)) w := fun w => run_convert_float_int w 27 2 .f64 .i64 b _ (by rw [Try.underlying27]; rfl) Try.underlying2 (whole_conv hb hw)
          rw [wh_yes hw, hw]; clear hn hb hw hf hr t1 t2 t3 hfr
          go_enter Try.func30, Try.ntmps30
          go_wp2_with (go_at_call 40; refine (floor_any _ _ Hb.out Hf.out).mono ?_; rintro e w' ⟨rfl, rfl⟩)
          go_ret2
          exact ⟨rfl, rfl⟩
        · have hw : wholeB b = false := by unfold wholeB; rw [hr, hfr]; rfl
          have t3' : (FloatKind.f64.format.order (floorW b) b != some .eq) = true := by rw [hfr] at t3; have t4 : (FloatKind.f64.format.order (floorW b) b == some .eq) = false := t3; simp only [bne, t4]; rfl
          rw [wh_no hw, hw]; clear hn hb hw hf hr t1 t2 t3 hfr
          go_enter Try.func30, Try.ntmps30
          go_wp2_with (go_at_call 40; refine (floor_any _ _ Hb.out Hf.out).mono ?_; rintro e w' ⟨rfl, rfl⟩)
          go_ret2
          exact ⟨rfl, rfl⟩
    all_goals
      have hw : wholeB b = false := by unfold wholeB inRng; rw [h2]; simp
      rw [wh_no hw, hw]; clear hn hb hw
      go_enter Try.func30, Try.ntmps30
      go_wp2
      go_ret2
      exact ⟨rfl, rfl⟩
  · have h1 := nan_order hb hn 14114281232179134464
    have h0 : (FloatKind.f64.format.order b b != some .eq) = true := hn
    have hw : wholeB b = false := by unfold wholeB inRng; rw [h1]; rfl
    rw [wh_no hw, hw]; clear hn hb hw h1
    go_enter Try.func30, Try.ntmps30
    go_wp2
    go_ret2
    exact ⟨rfl, rfl⟩

theorem wholes_any (b : Nat) (w : World) (hb : b < 18446744073709551616) :
    Calls Try.prog 8 #[.float .f64 b] w fun e w' => e = .returned (.bool true) ∧ w = w' := by
  rcases h : wholeB b with _ | _
  · have Hb := Lib.hid hb; have H := Lib.hid h
    clear hb h
    go_enter Try.func8, Try.ntmps8
    go_wp2_with fail
    refine (whole_any _ _ Hb.out).mono ?_
    rw [H.out]
    rintro e w' ⟨rfl, rfl⟩
    go_wp2_with fail
    refine (rwhole_any _ _ Hb.out).mono ?_
    rw [H.out]
    rintro e w' ⟨rfl, rfl⟩
    go_wp2_with fail
    refine (awake_any _).mono ?_
    rintro e w' ⟨rfl, rfl⟩
    go_wp2
    go_ret
    exact ⟨rfl, rfl⟩
  · have he : (FloatKind.f64.format.order (floatOfInt .f64 (wholeI b)) b == some .eq) = true := by rw [wh_yes h]; exact whole_eq hb h
    have Hb := Lib.hid hb; have H := Lib.hid h
    clear hb h
    go_enter Try.func8, Try.ntmps8
    go_wp2_with fail
    refine (whole_any _ _ Hb.out).mono ?_
    rw [H.out]
    rintro e w' ⟨rfl, rfl⟩
    go_wp2_with fail
    refine (rwhole_any _ _ Hb.out).mono ?_
    rw [H.out]
    rintro e w' ⟨rfl, rfl⟩
    go_wp2_with fail
    refine (awake_any _).mono ?_
    rintro e w' ⟨rfl, rfl⟩
    go_wp2
    go_ret
    exact ⟨rfl, rfl⟩
end Go.Proofs.Ytmkgjammkjmooaa
