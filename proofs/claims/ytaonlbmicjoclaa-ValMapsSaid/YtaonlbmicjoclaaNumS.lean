/- contracts of math.Nextafter towards -Inf, num.Split, num.Mix -/
import Derived.Test.YtaonlbmicjoclaaNumW
namespace Go.Proofs.Ytaonlbmicjoclaa
open Go.ChangeShapes Go.WideShapes Go.ChangeAt Go.RowKit Go.Fl

def minf : Nat := 18442240474082181120

theorem inf_any (w : World) : Calls Try.prog 76 #[.int .i64 (-1)] w fun e w' => e = .returned (.float .f64 minf) ∧ w = w' := by
  have hf : ∀ w, (callFunc 61 #[.int .u64 18442240474082181120]).run Try.prog w = .ok (.value (.float .f64 minf)) w := fun w => call_from _ w
  go_enter Try.func76, Try.ntmps76
  go_wp2
  go_ret
  exact ⟨rfl, rfl⟩

theorem minf_nan : nanB minf = false := by decide +kernel

theorem minf_low {b : Nat} (hb : b < 18446744073709551616) (h : rung b < 9218868437227405312) :
    FloatKind.f64.format.order b minf = some .gt ∧ FloatKind.f64.format.order minf b = some .lt := by
  have hn : nanB b = false := (nan_iff' hb).2 (by omega)
  have hs : srung minf < srung b := by
    have e : srung minf = -9218868437227405312 := by decide +kernel
    rw [e]; unfold srung sgn; cases neg b <;> simp <;> omega
  have hs' := sval_lt.2 hs
  rw [order_sval hb (by decide) hn minf_nan, order_sval (by decide) hb minf_nan hn, compare_lt hs', compare_gt hs']
  exact ⟨rfl, rfl⟩

theorem zero_side {b : Nat} (hb : b < 18446744073709551616) (h : rung b < 9218868437227405312) (h0 : 0 < rung b) :
    FloatKind.f64.format.order b 0 = some (if neg b then .lt else .gt) := by
  have hn : nanB b = false := (nan_iff' hb).2 (by omega)
  have e0 : sval 0 = 0 := by decide +kernel
  have hl := ladder_pos.2 h0
  rw [order_sval hb (by decide) hn (by decide +kernel), e0]
  unfold sval sgn
  cases neg b <;> simp <;> first | exact compare_gt (by omega) | exact compare_lt (by omega)

theorem next_pos (b : Nat) (w : World) (h0 : 0 < b) (h : b < 9218868437227405312) :
    Calls Try.prog 75 #[.float .f64 b, .float .f64 minf] w fun e w' => e = .returned (.float .f64 (b - 1)) ∧ w = w' := by
  have hb : b < 18446744073709551616 := by omega
  have hr : rung b = b := by unfold rung; omega
  obtain ⟨o1, o2⟩ := minf_low hb (by omega)
  have hn : nanB b = false := (nan_iff' hb).2 (by omega)
  have o3 := zero_side hb (by omega) (by omega)
  rw [show neg b = false from by unfold neg; simp; omega] at o3
  have o3' : FloatKind.f64.format.order b 0 = some .gt := o3
  have hm := minf_nan
  have hf : ∀ w, (callFunc 61 #[.int .u64 ((b : Int) - 1)]).run Try.prog w = .ok (.value (.float .f64 (b - 1))) w := by
    intro w; rw [call_from, show ((b : Int) - 1).toNat = b - 1 from by omega]
  have hg := call_bits
  have Hn := Lib.hid hn; have Hm := Lib.hid hm
  clear hn hm hr o3
  generalize minf = y at *
  generalize hq : b - 1 = q at *
  have Hq := Lib.hid hq; clear hq
  go_enter Try.func75, Try.ntmps75
  go_wp2_with fail
  refine (isnan_any _ _).mono ?_
  rw [Hn.out]
  rintro e w' ⟨rfl, rfl⟩
  go_wp2_with fail
  refine (isnan_any _ _).mono ?_
  rw [Hm.out]
  rintro e w' ⟨rfl, rfl⟩
  go_wp2
  go_ret
  exact ⟨rfl, rfl⟩

theorem next_neg (b : Nat) (w : World) (h0 : 9223372036854775808 < b) (h : b < 18442240474082181119) :
    Calls Try.prog 75 #[.float .f64 b, .float .f64 minf] w fun e w' => e = .returned (.float .f64 (b + 1)) ∧ w = w' := by
  have hb : b < 18446744073709551616 := by omega
  have hr : rung b = b - 9223372036854775808 := by unfold rung; omega
  obtain ⟨o1, o2⟩ := minf_low hb (by omega)
  have hn : nanB b = false := (nan_iff' hb).2 (by omega)
  have o3 := zero_side hb (by omega) (by omega)
  rw [show neg b = true from by unfold neg; simp; omega] at o3
  have o3' : FloatKind.f64.format.order b 0 = some .lt := o3
  have hm := minf_nan
  have hf : ∀ w, (callFunc 61 #[.int .u64 ((b : Int) + 1)]).run Try.prog w = .ok (.value (.float .f64 (b + 1))) w := by
    intro w; rw [call_from, show ((b : Int) + 1).toNat = b + 1 from by omega]
  have hg := call_bits
  have Hn := Lib.hid hn; have Hm := Lib.hid hm
  clear hn hm hr o3
  generalize minf = y at *
  generalize hq : b + 1 = q at *
  have Hq := Lib.hid hq; clear hq
  go_enter Try.func75, Try.ntmps75
  go_wp2_with fail
  refine (isnan_any _ _).mono ?_
  rw [Hn.out]
  rintro e w' ⟨rfl, rfl⟩
  go_wp2_with fail
  refine (isnan_any _ _).mono ?_
  rw [Hm.out]
  rintro e w' ⟨rfl, rfl⟩
  go_wp2
  go_ret
  exact ⟨rfl, rfl⟩

/-- what num.Split hands out -/
def partV (n : Int) : Value := .agg #[.float .f64 (fw (flo n)), .int .i64 (n - flo n)]

theorem top_order {u : Int} (h : Fit u) : FloatKind.f64.format.order (fw u) 4890909195324358656 = some (compare u 9223372036854775808) := by
  have hs := svals.2
  rw [order_sval (fw_facts h).1 (by decide) (nan_fw h) n_top, sval_fw h, hs, compare_mul _ _ _ S_pos]

theorem conv_run {v : Int} (h : Fit v) (h1 : -9223372036854775808 ≤ v) (h2 : v ≤ 9223372036854775807) (w : World) : (convert 24 2 (.float .f64 (fw v))).run Try.prog w = .ok (.int .i64 v) w :=
  run_convert_float_int w 24 2 .f64 .i64 _ _ (by rw [Try.underlying24]; rfl) Try.underlying2 (conv_fw h h1 h2)

theorem split_any (n : Int) (w : World) (hn : is64 n = true) :
    Calls Try.prog 71 #[.int .i64 n] w fun e w' => e = .returned (partV n) ∧ Below w.heap.size w w' := by
  obtain ⟨n1, n2⟩ := is64_iff.1 hn
  obtain ⟨u, hfu, hu, u1, u2, hcase⟩ := fw_cases n1 n2
  have hffl := flo_fit n1 n2
  have hflr := flo_range n1 n2
  have hov := over_range n1 n2
  have hcv := conv_run hffl hflr.1 hflr.2
  have hfl0 := (flo_le n).1
  have hfi : floatOfInt .f64 n = fw n := rfl
  have htop := top_order hfu
  rw [← hu] at htop
  obtain ⟨o1, o2⟩ := hov
  obtain ⟨q1, q2⟩ := hflr
  unfold partV
  clear hn
  rcases hcase with rfl | ⟨c1, c2, c3, c4, c5⟩ | ⟨c1, c2, c3, c4, c5, c6⟩
  · rw [compare_lt (by omega)] at htop
    rw [hu] at hfi htop
    generalize hz : fw (flo n) = z at *
    have ho : wrap64 (n - flo n) = n - flo n := wrap64_id (is64_iff.2 (by omega))
    generalize hy : flo n = y at *
    clear hu hz hy ho
    go_enter Try.func71, Try.ntmps71
    go_wp2
    exact bodyPost_ret (v := .agg #[.float .f64 z, .int .i64 (n - y)]) (by simp [results, Try.results71, go_sem]) rfl ⟨rfl, (Below.refl _ _).alloc (Nat.le_refl _) _⟩
  · rw [← c5] at hcv ⊢
    have Hn := Lib.hid (fun w => next_pos (fw n) w c3 c4)
    rcases Int.lt_trichotomy u 9223372036854775808 with h3 | h3 | h3
    · rw [compare_lt h3] at htop
      have hcu := conv_run hfu u1 (by omega)
      rw [← hu] at hcu
      generalize fw n = z at *
      generalize flo n = y at *
      generalize z - 1 = z' at *
      clear hu c3 c4 c5 h3
      go_enter Try.func71, Try.ntmps71
      go_wp2_with fail
      refine (inf_any _).mono ?_
      rintro e w' ⟨rfl, rfl⟩
      go_wp2_with fail
      refine (Hn.out _).mono ?_
      rintro e w' ⟨rfl, rfl⟩
      go_wp2
      exact bodyPost_ret (v := .agg #[.float .f64 z', .int .i64 (n - y)]) (by simp [results, Try.results71, go_sem]) rfl ⟨rfl, (Below.refl _ _).alloc (Nat.le_refl _) _⟩
    · subst h3
      rw [compare_self] at htop
      generalize fw n = z at *
      generalize flo n = y at *
      generalize z - 1 = z' at *
      clear hu c3 c4 c5
      go_enter Try.func71, Try.ntmps71
      go_wp2_with fail
      refine (inf_any _).mono ?_
      rintro e w' ⟨rfl, rfl⟩
      go_wp2_with fail
      refine (Hn.out _).mono ?_
      rintro e w' ⟨rfl, rfl⟩
      go_wp2
      exact bodyPost_ret (v := .agg #[.float .f64 z', .int .i64 (n - y)]) (by simp [results, Try.results71, go_sem]) rfl ⟨rfl, (Below.refl _ _).alloc (Nat.le_refl _) _⟩
    · omega
  · rw [← c6] at hcv ⊢
    have Hn := Lib.hid (fun w => next_neg (fw n) w c4 c5)
    rw [compare_lt (by omega)] at htop
    have hcu := conv_run hfu u1 (by omega)
    rw [← hu] at hcu
    generalize fw n = z at *
    generalize flo n = y at *
    generalize z + 1 = z' at *
    clear hu c4 c5 c6
    go_enter Try.func71, Try.ntmps71
    go_wp2_with fail
    refine (inf_any _).mono ?_
    rintro e w' ⟨rfl, rfl⟩
    go_wp2_with fail
    refine (Hn.out _).mono ?_
    rintro e w' ⟨rfl, rfl⟩
    go_wp2
    exact bodyPost_ret (v := .agg #[.float .f64 z', .int .i64 (n - y)]) (by simp [results, Try.results71, go_sem]) rfl ⟨rfl, (Below.refl _ _).alloc (Nat.le_refl _) _⟩

/-- how an int64 is ordered to a float -/
def mixN (n : Int) (b : Nat) : Int := if cmpN (fw (flo n)) b = 0 then (if 0 < n - flo n then 1 else -1) else cmpN (fw (flo n)) b

theorem mix_any (n : Int) (b : Nat) (w : World) (hn : is64 n = true) (hb : b < 18446744073709551616) :
    Calls Try.prog 56 #[.int .i64 n, .float .f64 b] w fun e w' => e = .returned (.int .i64 (mixN n b)) ∧ Below w.heap.size w w' := by
  obtain ⟨n1, n2⟩ := is64_iff.1 hn
  have hz := (fw_facts (flo_fit n1 n2)).1
  have hs := Lib.hid (split_any n · hn)
  unfold partV at hs
  unfold mixN
  have Hb := Lib.hid hb; have Hz := Lib.hid hz
  clear hn hb hz n1 n2
  generalize fw (flo n) = z at *
  generalize n - flo n = y at *
  by_cases hc : cmpN z b = 0
  · rw [if_pos hc]
    have Hc := Lib.hid hc; clear hc
    by_cases hy : 0 < y
    · rw [if_pos hy]
      go_enter Try.func56, Try.ntmps56
      go_wp2_with fail
      refine (hs.out _).mono ?_
      rintro e w1 ⟨rfl, hb1⟩
      go_wp2_with fail
      refine (cmp_any _ _ _ Hz.out Hb.out).mono ?_
      rw [Hc.out]
      rintro e w' ⟨rfl, rfl⟩
      go_wp2
      go_ret
      exact ⟨rfl, hb1.alloc hb1.size _⟩
    · rw [if_neg hy]
      go_enter Try.func56, Try.ntmps56
      go_wp2_with fail
      refine (hs.out _).mono ?_
      rintro e w1 ⟨rfl, hb1⟩
      go_wp2_with fail
      refine (cmp_any _ _ _ Hz.out Hb.out).mono ?_
      rw [Hc.out]
      rintro e w' ⟨rfl, rfl⟩
      go_wp2
      go_ret
      exact ⟨rfl, hb1.alloc hb1.size _⟩
  · rw [if_neg hc]
    have hc' : (cmpN z b == 0) = false := by simpa using hc
    clear hc
    go_enter Try.func56, Try.ntmps56
    go_wp2_with fail
    refine (hs.out _).mono ?_
    rintro e w1 ⟨rfl, hb1⟩
    go_wp2_with fail
    refine (cmp_any _ _ _ Hz.out Hb.out).mono ?_
    rintro e w' ⟨rfl, rfl⟩
    go_wp2
    go_ret
    exact ⟨rfl, hb1.alloc hb1.size _⟩

theorem mix_between {n m : Int} {b : Nat} (hn : is64 n = true) (hm : is64 m = true) (h1 : mixN n b < 0) (h2 : 0 < mixN m b) : n < m := by
  obtain ⟨n1, n2⟩ := is64_iff.1 hn
  obtain ⟨m1, m2⟩ := is64_iff.1 hm
  have fn := flo_fit n1 n2
  have fm := flo_fit m1 m2
  have on := over_range n1 n2
  have om := over_range m1 m2
  have kl := key_fw_lt fn fm
  have ke := key_fw_eq fn fm
  have a1 : keyN (fw (flo n)) < keyN b ∨ (keyN (fw (flo n)) = keyN b ∧ n - flo n ≤ 0) := by
    unfold mixN at h1
    rcases Nat.lt_trichotomy (keyN (fw (flo n))) (keyN b) with h | h | h
    · exact Or.inl h
    · rw [cmp_eq h, if_pos rfl] at h1
      refine Or.inr ⟨h, ?_⟩
      split at h1 <;> omega
    · rw [cmp_gt h] at h1; simp at h1
  have a2 : keyN b < keyN (fw (flo m)) ∨ (keyN (fw (flo m)) = keyN b ∧ 0 < m - flo m) := by
    unfold mixN at h2
    rcases Nat.lt_trichotomy (keyN (fw (flo m))) (keyN b) with h | h | h
    · rw [cmp_lt h] at h2; simp at h2
    · rw [cmp_eq h, if_pos rfl] at h2
      refine Or.inr ⟨h, ?_⟩
      split at h2 <;> omega
    · exact Or.inl h
  by_cases hle : m ≤ n
  · exfalso
    have := flo_mono hle
    omega
  · omega

theorem mix_not_zero (n : Int) (b : Nat) : (mixN n b == 0) = false := by
  unfold mixN
  split
  · split <;> rfl
  · rename_i h; simpa using h

theorem whole_fw {v : Int} (h : Fit v) (h1 : -9223372036854775808 ≤ v) (h2 : v ≤ 9223372036854775807) : wholeB (fw v) = true ∧ wholeI (fw v) = v := by
  obtain ⟨f1, f2, f3, f4⟩ := fw_facts h
  have hp : Fl.part (fw v) = v.natAbs := by unfold Fl.part; rw [f4, Nat.mul_div_cancel _ S_pos]
  have hfr : frac (fw v) = false := by unfold frac; rw [f4, Nat.mul_mod_left]; rfl
  have e : ival (fw v) = v := by
    unfold ival; rw [f2, hp]; unfold sgn; by_cases hv : v < 0 <;> simp [hv] <;> omega
  have hl : FloatKind.f64.format.order (fw v) 14114281232179134464 = some (compare v (-9223372036854775808)) := by
    have hs := svals.1
    rw [order_sval f1 (by decide) (nan_fw h) n_least, sval_fw h, hs, compare_mul _ _ _ S_pos]
  have ht := top_order h
  have hr : inRng (fw v) = true := by
    unfold inRng; rw [hl, ht, compare_lt (show v < 9223372036854775808 from by omega)]
    by_cases hv : v = -9223372036854775808
    · rw [hv, compare_self]; rfl
    · rw [compare_gt (show -9223372036854775808 < v from by omega)]; rfl
  have hw : wholeB (fw v) = true := by unfold wholeB; rw [hr, hfr]; rfl
  exact ⟨hw, by unfold wholeI; rw [hw, e]; rfl⟩

theorem parts_lt {a b : Int} :
    ((flo a < flo b ∨ (flo a = flo b ∧ a - flo a < b - flo b)) ↔ a < b) ∧ ((flo a = flo b ∧ a - flo a = b - flo b) ↔ a = b) := by
  constructor
  · constructor
    · rintro (h | ⟨h1, h2⟩)
      · apply Int.not_le.1; intro hc
        have := flo_mono hc; omega
      · omega
    · intro h
      have := flo_mono (Int.le_of_lt h)
      omega
  · constructor
    · rintro ⟨h1, h2⟩; omega
    · rintro rfl; exact ⟨rfl, rfl⟩

end Go.Proofs.Ytaonlbmicjoclaa
