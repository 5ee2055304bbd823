/- FlW, NumW, NumS, RefB -/
import Derived.Test.YtgmjhoppjjjilaaDoorQ03
import Derived.Test.YtgmjhoppjjjilaaDoorQ11

/- Plain facts: which words are int64 (no program) -/
namespace Go.Fl
open Ieee
/-- within int64's range, as Go's comparisons say it -/
def inRng (b : Nat) : Bool := (FloatKind.f64.format.order b 14114281232179134464 == some .gt || FloatKind.f64.format.order b 14114281232179134464 == some .eq) && FloatKind.f64.format.order b 4890909195324358656 == some .lt

theorem svals : sval 14114281232179134464 = -9223372036854775808 * (S : Int) ∧ sval 4890909195324358656 = 9223372036854775808 * (S : Int) := by
  have e1 : ladder 4890909195324358656 = 9223372036854775808 * S := by
    obtain ⟨t, ht⟩ : ∃ t, t = 1085 := ⟨_, rfl⟩
    obtain ⟨q, hq⟩ : ∃ q, q = 1074 := ⟨_, rfl⟩
    have h := ladder_at t 4503599627370496 (by decide) (by decide)
    rw [show t * 4503599627370496 + 4503599627370496 = 4890909195324358656 from by omega] at h
    rw [h, S_eq q hq, show (4503599627370496 : Nat) = 2 ^ 52 from by decide, show (9223372036854775808 : Nat) = 2 ^ 63 from by decide, ← Nat.pow_add, ← Nat.pow_add, show 52 + t = 63 + q from by omega]
  have a1 : rung 14114281232179134464 = 4890909195324358656 := by decide
  have a2 : rung 4890909195324358656 = 4890909195324358656 := by decide
  have a3 : neg 14114281232179134464 = true := by decide
  have a4 : neg 4890909195324358656 = false := by decide
  unfold sval; rw [a1, a2, a3, a4, e1]
  unfold sgn
  simp [Int.neg_mul]

theorem inRng_facts {b : Nat} (hb : b < 18446744073709551616) (h : inRng b = true) : nanB b = false ∧ rung b < 9218868437227405312 ∧ -9223372036854775808 * (S : Int) ≤ sval b ∧ sval b < 9223372036854775808 * (S : Int) := by
  obtain ⟨s1, s2⟩ := svals
  unfold inRng at h
  rw [Bool.and_eq_true] at h
  have n1 : nanB 14114281232179134464 = false := by decide +kernel
  have n2 : nanB 4890909195324358656 = false := by decide +kernel
  have hn : nanB b = false := by
    rcases hn : nanB b with _ | _
    · rfl
    · have := order_nan_l (b := 4890909195324358656) hb ((nan_iff hb).1 hn)
      have h2 := h.2
      rw [show FloatKind.f64.format.order b 4890909195324358656 = double.order b 4890909195324358656 from rfl, this] at h2
      simp at h2
  have h1 := h.1; have h2 := h.2
  rw [order_sval hb (by decide) hn n1, s1] at h1
  rw [order_sval hb (by decide) hn n2, s2] at h2
  simp [compare_lt_iff] at h2
  simp [compare_gt_iff] at h1
  refine ⟨hn, ?_, by omega, h2⟩
  apply Nat.lt_of_not_le; intro hc
  have hr : rung b = 9218868437227405312 := by have := (nan_iff' hb).1 hn; omega
  have hl := @ladder_lt 4890909195324358656 9218868437227405312 (by decide)
  have e1 : (ladder 4890909195324358656 : Int) = 9223372036854775808 * (S : Int) := by
    have a2 : rung 4890909195324358656 = 4890909195324358656 := by decide
    have a4 : neg 4890909195324358656 = false := by decide
    unfold sval at s2; rw [a2, a4] at s2; simpa [sgn] using s2
  unfold sval at h1 h2
  rw [hr] at h1 h2
  unfold sgn at h1 h2
  generalize ladder 9218868437227405312 = p at *
  generalize ladder 4890909195324358656 = q at *
  cases neg b <;> (try simp only [if_true, Bool.false_eq_true, if_false] at h1 h2) <;> omega

def wholeB (b : Nat) : Bool := inRng b && !frac b

def ival (b : Nat) : Int := sgn (neg b) (part b)

def wholeI (b : Nat) : Int := if wholeB b then ival b else 0

theorem whole_facts {b : Nat} (hb : b < 18446744073709551616) (h : wholeB b = true) : sval b = ival b * (S : Int) ∧ -9223372036854775808 ≤ ival b ∧ ival b ≤ 9223372036854775807 ∧ Fit (ival b) := by
  unfold wholeB at h
  rw [Bool.and_eq_true] at h
  obtain ⟨h1, h2, h3, h4⟩ := inRng_facts hb h.1
  have hf : ladder (rung b) % S = 0 := by have := h.2; unfold frac at this; simpa using this
  have hl : ladder (rung b) = part b * S := by have := part_frac b; omega
  have e : sval b = ival b * (S : Int) := by unfold sval ival; rw [hl, sgn_mul]
  rw [e] at h3 h4
  have a1 := mul_S_lt.1 h4
  have a2 : -9223372036854775808 ≤ ival b := by
    apply Int.not_lt.1; intro hc
    have := mul_S_lt.2 hc
    omega
  refine ⟨e, a2, by omega, rung b, h2, ?_⟩
  have e3 : (ival b).natAbs = part b := by unfold ival sgn; cases neg b <;> simp
  rw [e3, hl]

theorem whole_eq {b : Nat} (hb : b < 18446744073709551616) (h : wholeB b = true) : (FloatKind.f64.format.order (fw (ival b)) b == some .eq) = true := by
  obtain ⟨h1, h2, h3, h4⟩ := whole_facts hb h
  have hn : nanB b = false := by unfold wholeB at h; rw [Bool.and_eq_true] at h; exact (inRng_facts hb h.1).1
  rw [order_sval (fw_facts h4).1 hb (nan_fw h4) hn, sval_fw h4, h1, compare_self]; rfl

theorem whole_conv {b : Nat} (hb : b < 18446744073709551616) (h : wholeB b = true) : floatToIntVal .f64 b .i64 = some (ival b) := by
  obtain ⟨h1, h2, h3, h4⟩ := whole_facts hb h
  have h' := h
  unfold wholeB at h'; rw [Bool.and_eq_true] at h'
  unfold floatToIntVal
  rw [toInt_eq hb (inRng_facts hb h'.1).2.1]
  have e1 : IntKind.i64.min = -9223372036854775808 := by decide
  have e2 : IntKind.i64.max = 9223372036854775807 := by decide
  simp only [e1, e2]
  rw [if_pos]; · rfl
  exact ⟨h2, h3⟩

theorem key_fw_lt {u v : Int} (hu : Fit u) (hv : Fit v) : keyN (fw u) < keyN (fw v) ↔ u < v := by
  obtain ⟨a1, a2, a3, a4⟩ := fw_facts hu
  obtain ⟨b1, b2, b3, b4⟩ := fw_facts hv
  rw [key_lt_num a1 b1 (nan_fw hu) (nan_fw hv), ← sval_lt, sval_fw hu, sval_fw hv, mul_S_lt]
  constructor
  · rintro (h | ⟨h1, h2, h3, h4⟩)
    · exact h
    · exfalso
      rw [h1, ladder_zero] at a4
      rw [a2] at h3
      have hS := S_pos
      have : u.natAbs = 0 := by
        rcases Nat.mul_eq_zero.1 a4.symm with h | h
        · exact h
        · omega
      simp at h3; omega
  · exact Or.inl

theorem key_fw_eq {u v : Int} (hu : Fit u) (hv : Fit v) : keyN (fw u) = keyN (fw v) ↔ u = v := by
  have h1 := key_fw_lt hu hv
  have h2 := key_fw_lt hv hu
  omega

end Go.Fl

/- contracts of math.Trunc and num.Whole -/
namespace Go.Proofs.YtgmjhoppjjjilaaDoor
open Go.ChangeShapes Go.WideShapes Go.ChangeAt Go.RowKit Go.Fl

theorem integral_num (name : String) (way : Ieee.Toward) (b : Nat) (s m i) (h : FloatKind.f64.decode b = .number s m i) : Extern.MathFloor.toIntegral name way #[.float .f64 b] = pure (.float .f64 (FloatKind.f64.encode ((FloatKind.f64.decode b).integral way))) := by
  unfold Extern.MathFloor.toIntegral
  generalize FloatKind.f64.decode = dec at *
  rw [h]
  conv => lhs; whnf
  rw [h]

theorem wh_no {b : Nat} (h : wholeB b = false) : wholeI b = 0 := by unfold wholeI; rw [h]; rfl

theorem wh_yes {b : Nat} (h : wholeB b = true) : wholeI b = ival b := by unfold wholeI; rw [h]; rfl

theorem order_self_nan {b : Nat} (h : nanB b = true) : (FloatKind.f64.format.order b b != some .eq) = true := h

theorem nan_order {b : Nat} (hb : b < 18446744073709551616) (h : nanB b = true) (c : Nat) : FloatKind.f64.format.order b c = none := order_nan_l hb ((nan_iff hb).1 h)

theorem num_order {a b : Nat} (ha : a < 18446744073709551616) (hb : b < 18446744073709551616) (na : nanB a = false) (nb : nanB b = false) :
    FloatKind.f64.format.order a b = some .lt ∨ FloatKind.f64.format.order a b = some .eq ∨ FloatKind.f64.format.order a b = some .gt := by
  rw [order_sval ha hb na nb]
  cases compare (sval a) (sval b) <;> simp

theorem n_least : nanB 14114281232179134464 = false := by decide +kernel

theorem n_top : nanB 4890909195324358656 = false := by decide +kernel

end Go.Proofs.YtgmjhoppjjjilaaDoor

/- contracts of math.Nextafter towards -Inf, num.Split, num.Mix -/
namespace Go.Proofs.YtgmjhoppjjjilaaDoor
open Go.ChangeShapes Go.WideShapes Go.ChangeAt Go.RowKit Go.Fl

def minf : Nat := 18442240474082181120

theorem minf_nan : nanB minf = false := by decide +kernel

theorem minf_low {b : Nat} (hb : b < 18446744073709551616) (h : rung b < 9218868437227405312) :
    FloatKind.f64.format.order b minf = some .gt ∧ FloatKind.f64.format.order minf b = some .lt := by
  have hn : nanB b = false := (nan_iff' hb).2 (by omega)
  have hs : srung minf < srung b := by
    have e : srung minf = -9218868437227405312 := by decide +kernel
    rw [e]; unfold srung sgn; cases neg b <;> simp <;> omega
  have hs' := sval_lt.2 hs
  rw [order_sval hb (by decide) hn minf_nan, order_sval (by decide) hb minf_nan hn, compare_lt hs', compare_gt hs']
  exact ⟨rfl, rfl⟩

theorem zero_side {b : Nat} (hb : b < 18446744073709551616) (h : rung b < 9218868437227405312) (h0 : 0 < rung b) :
    FloatKind.f64.format.order b 0 = some (if neg b then .lt else .gt) := by
  have hn : nanB b = false := (nan_iff' hb).2 (by omega)
  have e0 : sval 0 = 0 := by decide +kernel
  have hl := ladder_pos.2 h0
  rw [order_sval hb (by decide) hn (by decide +kernel), e0]
  unfold sval sgn
  cases neg b <;> simp <;> first | exact compare_gt (by omega) | exact compare_lt (by omega)

/-- what num.Split hands out -/
def partV (n : Int) : Value := .agg #[.float .f64 (fw (flo n)), .int .i64 (n - flo n)]

theorem top_order {u : Int} (h : Fit u) : FloatKind.f64.format.order (fw u) 4890909195324358656 = some (compare u 9223372036854775808) := by
  have hs := svals.2
  rw [order_sval (fw_facts h).1 (by decide) (nan_fw h) n_top, sval_fw h, hs, compare_mul _ _ _ S_pos]

theorem conv_run {v : Int} (h : Fit v) (h1 : -9223372036854775808 ≤ v) (h2 : v ≤ 9223372036854775807) (w : World) : (convert 22 2 (.float .f64 (fw v))).run Tryd.prog w = .ok (.int .i64 v) w :=
  run_convert_float_int w 22 2 .f64 .i64 _ _ (by rw [Tryd.underlying22]; rfl) Tryd.underlying2 (conv_fw h h1 h2)

/-- how an int64 is ordered to a float -/
def mixN (n : Int) (b : Nat) : Int := if cmpN (fw (flo n)) b = 0 then (if 0 < n - flo n then 1 else -1) else cmpN (fw (flo n)) b

theorem mix_between {n m : Int} {b : Nat} (hn : is64 n = true) (hm : is64 m = true) (h1 : mixN n b < 0) (h2 : 0 < mixN m b) : n < m := by
  obtain ⟨n1, n2⟩ := is64_iff.1 hn
  obtain ⟨m1, m2⟩ := is64_iff.1 hm
  have fn := flo_fit n1 n2
  have fm := flo_fit m1 m2
  have on := over_range n1 n2
  have om := over_range m1 m2
  have kl := key_fw_lt fn fm
  have ke := key_fw_eq fn fm
  have a1 : keyN (fw (flo n)) < keyN b ∨ (keyN (fw (flo n)) = keyN b ∧ n - flo n ≤ 0) := by
    unfold mixN at h1
    rcases Nat.lt_trichotomy (keyN (fw (flo n))) (keyN b) with h | h | h
    · exact Or.inl h
    · rw [cmp_eq h, if_pos rfl] at h1
      refine Or.inr ⟨h, ?_⟩
      split at h1 <;> omega
    · rw [cmp_gt h] at h1; simp at h1
  have a2 : keyN b < keyN (fw (flo m)) ∨ (keyN (fw (flo m)) = keyN b ∧ 0 < m - flo m) := by
    unfold mixN at h2
    rcases Nat.lt_trichotomy (keyN (fw (flo m))) (keyN b) with h | h | h
    · rw [cmp_lt h] at h2; simp at h2
    · rw [cmp_eq h, if_pos rfl] at h2
      refine Or.inr ⟨h, ?_⟩
      split at h2 <;> omega
    · exact Or.inl h
  by_cases hle : m ≤ n
  · exfalso
    have := flo_mono hle
    omega
  · omega

theorem mix_not_zero (n : Int) (b : Nat) : (mixN n b == 0) = false := by
  unfold mixN
  split
  · split <;> rfl
  · rename_i h; simpa using h

theorem whole_fw {v : Int} (h : Fit v) (h1 : -9223372036854775808 ≤ v) (h2 : v ≤ 9223372036854775807) : wholeB (fw v) = true ∧ wholeI (fw v) = v := by
  obtain ⟨f1, f2, f3, f4⟩ := fw_facts h
  have hp : Fl.part (fw v) = v.natAbs := by unfold Fl.part; rw [f4, Nat.mul_div_cancel _ S_pos]
  have hfr : frac (fw v) = false := by unfold frac; rw [f4, Nat.mul_mod_left]; rfl
  have e : ival (fw v) = v := by
    unfold ival; rw [f2, hp]; unfold sgn; by_cases hv : v < 0 <;> simp [hv] <;> omega
  have hl : FloatKind.f64.format.order (fw v) 14114281232179134464 = some (compare v (-9223372036854775808)) := by
    have hs := svals.1
    rw [order_sval f1 (by decide) (nan_fw h) n_least, sval_fw h, hs, compare_mul _ _ _ S_pos]
  have ht := top_order h
  have hr : inRng (fw v) = true := by
    unfold inRng; rw [hl, ht, compare_lt (show v < 9223372036854775808 from by omega)]
    by_cases hv : v = -9223372036854775808
    · rw [hv, compare_self]; rfl
    · rw [compare_gt (show -9223372036854775808 < v from by omega)]; rfl
  have hw : wholeB (fw v) = true := by unfold wholeB; rw [hr, hfr]; rfl
  exact ⟨hw, by unfold wholeI; rw [hw, e]; rfl⟩

theorem parts_lt {a b : Int} :
    ((flo a < flo b ∨ (flo a = flo b ∧ a - flo a < b - flo b)) ↔ a < b) ∧ ((flo a = flo b ∧ a - flo a = b - flo b) ↔ a = b) := by
  constructor
  · constructor
    · rintro (h | ⟨h1, h2⟩)
      · apply Int.not_le.1; intro hc
        have := flo_mono hc; omega
      · omega
    · intro h
      have := flo_mono (Int.le_of_lt h)
      omega
  · constructor
    · rintro ⟨h1, h2⟩; omega
    · rintro rfl; exact ⟨rfl, rfl⟩

end Go.Proofs.YtgmjhoppjjjilaaDoor

/- contracts of the reference of layer 1: Canon, Key, Less, Cmp -/
namespace Go.Proofs.YtgmjhoppjjjilaaDoor
open Go.ChangeShapes Go.WideShapes Go.ChangeAt Go.RowKit Go.Fl

theorem rcanon_any (b : Nat) (w : World) :
    Calls Tryd.prog 17 #[.float .f64 b] w fun e w' => e = .returned (.int .u64 (canonN b)) ∧ w = w' := by
  unfold canonN
  have hf := call_bits
  rcases h : nanB b with _ | _
  · have h1 : (FloatKind.f64.format.order b b != some .eq) = false := h
    clear h
    go_enter Tryd.func17, Tryd.ntmps17
    go_wp2
    go_ret
    exact ⟨rfl, rfl⟩
  · have h1 : (FloatKind.f64.format.order b b != some .eq) = true := h
    clear h
    go_enter Tryd.func17, Tryd.ntmps17
    go_wp2
    go_ret
    exact ⟨rfl, rfl⟩

/-- the reference's Less is the keys' order -/
theorem less_any (a b : Nat) (w : World) (ha : a < 18446744073709551616) (hb : b < 18446744073709551616) :
    Calls Tryd.prog 86 #[.float .f64 a, .float .f64 b] w fun e w' => e = .returned (.bool (decide (keyN a < keyN b))) ∧ w = w' := by
  rcases na : nanB a with _ | _
  · have h1 : (FloatKind.f64.format.order a a != some .eq) = false := na
    have h1' : (FloatKind.f64.format.order a a == some .eq) = true := by simpa using h1
    rcases nb : nanB b with _ | _
    · have h2 : (FloatKind.f64.format.order b b != some .eq) = false := nb
      have kl := key_lt_num ha hb na nb
      have n0 : nanB 0 = false := by decide +kernel
      have za : (FloatKind.f64.format.order a 0 == some .eq) = decide (rung a = 0) := by
        refine (eqB_eq ha (by decide) na n0).trans ?_
        have s0 : srung 0 = 0 := by decide
        rw [s0, Bool.eq_iff_iff]; unfold srung sgn; cases neg a <;> simp
      have zb : (FloatKind.f64.format.order b 0 == some .eq) = decide (rung b = 0) := by
        refine (eqB_eq hb (by decide) nb n0).trans ?_
        have s0 : srung 0 = 0 := by decide
        rw [s0, Bool.eq_iff_iff]; unfold srung sgn; cases neg b <;> simp
      have hlt : (FloatKind.f64.format.order a b == some .lt) = decide (srung a < srung b) := ltB_eq ha hb na nb
      by_cases hz : rung a = 0 ∧ rung b = 0
      · rw [decide_eq_true hz.1] at za
        rw [decide_eq_true hz.2] at zb
        have e1 : decide (keyN a < keyN b) = (neg a && !neg b) := by
          rw [Bool.eq_iff_iff, decide_eq_true_eq, kl]
          simp only [srung, sgn, hz.1, hz.2]
          cases neg a <;> cases neg b <;> simp
        rw [e1]
        clear e1 hlt kl na nb n0 hz
        have Ha := Lib.hid ha; have Hb := Lib.hid hb; clear ha hb
        rcases sa : neg a with _ | _
        · have Sa := Lib.hid sa; clear sa
          go_enter Tryd.func86, Tryd.ntmps86
          go_wp2_with fail
          refine (signbit_any _ _ Ha.out).mono ?_
          rw [Sa.out]
          rintro e w' ⟨rfl, rfl⟩
          go_wp2
          go_ret
          exact ⟨rfl, rfl⟩
        · have Sa := Lib.hid sa; clear sa
          go_enter Tryd.func86, Tryd.ntmps86
          go_wp2_with fail
          refine (signbit_any _ _ Ha.out).mono ?_
          rw [Sa.out]
          rintro e w' ⟨rfl, rfl⟩
          go_wp2_with fail
          refine (signbit_any _ _ Hb.out).mono ?_
          rintro e w' ⟨rfl, rfl⟩
          go_wp2
          go_ret
          exact ⟨rfl, rfl⟩
      · have e1 : decide (keyN a < keyN b) = (FloatKind.f64.format.order a b == some .lt) := by
          rw [hlt, Bool.eq_iff_iff, decide_eq_true_eq, decide_eq_true_eq, kl]
          constructor
          · rintro (h | ⟨x, y, -⟩)
            · exact h
            · exact absurd ⟨x, y⟩ hz
          · exact Or.inl
        rw [e1]
        clear e1 hlt kl na nb n0 ha hb
        by_cases hz1 : rung a = 0
        · rw [decide_eq_true hz1] at za
          rw [decide_eq_false (fun h => hz ⟨hz1, h⟩)] at zb
          clear hz hz1
          go_enter Tryd.func86, Tryd.ntmps86
          go_wp2
          go_ret
          exact ⟨rfl, rfl⟩
        · rw [decide_eq_false hz1] at za
          clear hz hz1 zb
          go_enter Tryd.func86, Tryd.ntmps86
          go_wp2
          go_ret
          exact ⟨rfl, rfl⟩
    · have h2 : (FloatKind.f64.format.order b b != some .eq) = true := nb
      rw [decide_eq_true (key_num_lt_nan ha na nb)]
      clear na nb ha hb
      go_enter Tryd.func86, Tryd.ntmps86
      go_wp2
      go_ret
      exact ⟨rfl, rfl⟩
  · have h1 : (FloatKind.f64.format.order a a != some .eq) = true := na
    have h1' : (FloatKind.f64.format.order a a == some .eq) = false := by simpa using h1
    have e1 : decide (keyN a < keyN b) = false := by
      rcases nb : nanB b with _ | _
      · have := key_num_lt_nan hb nb na; simp; omega
      · rw [keyN_nan na, keyN_nan nb]; decide
    rw [e1]
    clear e1 na ha hb
    go_enter Tryd.func86, Tryd.ntmps86
    go_wp2
    go_ret
    exact ⟨rfl, rfl⟩

theorem rcmp_any (a b : Nat) (w : World) (ha : a < 18446744073709551616) (hb : b < 18446744073709551616) :
    Calls Tryd.prog 72 #[.float .f64 a, .float .f64 b] w fun e w' => e = .returned (.int .i64 (cmpN a b)) ∧ w = w' := by
  have Ha := Lib.hid ha; have Hb := Lib.hid hb; clear ha hb
  rcases Nat.lt_trichotomy (keyN a) (keyN b) with h | h | h
  · rw [cmp_lt h]
    have ht : decide (keyN a < keyN b) = true := by simpa using h
    have Ht := Lib.hid ht; clear h ht
    go_enter Tryd.func72, Tryd.ntmps72
    go_wp2_with fail
    refine (less_any _ _ _ Ha.out Hb.out).mono ?_
    rw [Ht.out]
    rintro e w' ⟨rfl, rfl⟩
    go_wp2
    go_ret
    exact ⟨rfl, rfl⟩
  · rw [cmp_eq h]
    have ht : decide (keyN a < keyN b) = false := by simp; omega
    have ht' : decide (keyN b < keyN a) = false := by simp; omega
    have Ht := Lib.hid ht; have Ht' := Lib.hid ht'; clear h ht ht'
    go_enter Tryd.func72, Tryd.ntmps72
    go_wp2_with fail
    refine (less_any _ _ _ Ha.out Hb.out).mono ?_
    rw [Ht.out]
    rintro e w' ⟨rfl, rfl⟩
    go_wp2_with fail
    refine (less_any _ _ _ Hb.out Ha.out).mono ?_
    rw [Ht'.out]
    rintro e w' ⟨rfl, rfl⟩
    go_wp2
    go_ret
    exact ⟨rfl, rfl⟩
  · rw [cmp_gt h]
    have ht : decide (keyN a < keyN b) = false := by simp; omega
    have ht' : decide (keyN b < keyN a) = true := by simpa using h
    have Ht := Lib.hid ht; have Ht' := Lib.hid ht'; clear h ht ht'
    go_enter Tryd.func72, Tryd.ntmps72
    go_wp2_with fail
    refine (less_any _ _ _ Ha.out Hb.out).mono ?_
    rw [Ht.out]
    rintro e w' ⟨rfl, rfl⟩
    go_wp2_with fail
    refine (less_any _ _ _ Hb.out Ha.out).mono ?_
    rw [Ht'.out]
    rintro e w' ⟨rfl, rfl⟩
    go_wp2
    go_ret
    exact ⟨rfl, rfl⟩

end Go.Proofs.YtgmjhoppjjjilaaDoor
