/- the laws NumMixes, NumSplits, NumParts -/
import Derived.Test.YtmkgjammkjmooaaL
import Derived.Laws.StructEq
namespace Go.Fl
theorem key_fw_lt {u v : Int} (hu : Fit u) (hv : Fit v) : keyN (fw u) < keyN (fw v) ↔ u < v := by
  obtain ⟨a1, a2, a3, a4⟩ := fw_facts hu
  obtain ⟨b1, b2, b3, b4⟩ := fw_facts hv
  rw [key_lt_num a1 b1 (nan_fw hu) (nan_fw hv), ← sval_lt, sval_fw hu, sval_fw hv, mul_S_lt]
  constructor
  · rintro (h | ⟨h1, h2, h3, h4⟩)
    · exact h
    · exfalso
      rw [h1, ladder_zero] at a4
      rw [a2] at h3
      have hS := S_pos
      have : u.natAbs = 0 := by
        rcases Nat.mul_eq_zero.1 a4.symm with h | h
        · exact h
        · omega
      simp at h3; omega
  · exact Or.inl
theorem key_fw_eq {u v : Int} (hu : Fit u) (hv : Fit v) : keyN (fw u) = keyN (fw v) ↔ u = v := by
  have h1 := key_fw_lt hu hv
  have h2 := key_fw_lt hv hu
  omega
end Go.Fl
namespace Go.Proofs.Ytmkgjammkjmooaa
open Go.ChangeShapes Go.WideShapes Go.ChangeAt Go.RowKit Go.Fl

theorem mix_between {n m : Int} {b : Nat} (hn : is64 n = true) (hm : is64 m = true) (h1 : mixN n b < 0) (h2 : 0 < mixN m b) : n < m := by
  obtain ⟨n1, n2⟩ := is64_iff.1 hn
  obtain ⟨m1, m2⟩ := is64_iff.1 hm
  have fn := flo_fit n1 n2
  have fm := flo_fit m1 m2
  have on := over_range n1 n2
  have om := over_range m1 m2
  have kl := key_fw_lt fn fm
  have ke := key_fw_eq fn fm
  have a1 : keyN (fw (flo n)) < keyN b ∨ (keyN (fw (flo n)) = keyN b ∧ n - flo n ≤ 0) := by
    unfold mixN at h1
    rcases Nat.lt_trichotomy (keyN (fw (flo n))) (keyN b) with h | h | h
    · exact Or.inl h
    · rw [cmp_eq h, if_pos rfl] at h1
      refine Or.inr ⟨h, ?_⟩
      split at h1 <;> omega
    · rw [cmp_gt h] at h1; simp at h1
  have a2 : keyN b < keyN (fw (flo m)) ∨ (keyN (fw (flo m)) = keyN b ∧ 0 < m - flo m) := by
    unfold mixN at h2
    rcases Nat.lt_trichotomy (keyN (fw (flo m))) (keyN b) with h | h | h
    · rw [cmp_lt h] at h2; simp at h2
    · rw [cmp_eq h, if_pos rfl] at h2
      refine Or.inr ⟨h, ?_⟩
      split at h2 <;> omega
    · exact Or.inl h
  by_cases hle : m ≤ n
  · exfalso
    have := flo_mono hle
    omega
  · omega
theorem mix_not_zero (n : Int) (b : Nat) : (mixN n b == 0) = false := by
  unfold mixN
  split
  · split <;> rfl
  · rename_i h; simpa using h
theorem mixes_any (n m : Int) (b : Nat) (w : World) (hn : is64 n = true) (hm : is64 m = true) (hb : b < 18446744073709551616) :
    Calls Try.prog 9 #[.int .i64 n, .int .i64 m, .float .f64 b] w fun e w' => e = .returned (.bool true) ∧ Below w.heap.size w w' := by
  have hbt := Lib.hid (@mix_between n m b hn hm)
  have hz := mix_not_zero n b
  have Hn := Lib.hid hn; have Hm := Lib.hid hm; have Hb := Lib.hid hb
  clear hn hm hb
  by_cases hlt : n < m
  · go_enter Try.func9, Try.ntmps9
    go_wp2_with fail
    refine (mix_any _ _ _ Hn.out Hb.out).mono ?_
    rintro e w1 ⟨rfl, hb1⟩
    go_wp2_with fail
    refine (mix_any _ _ _ Hm.out Hb.out).mono ?_
    rintro e w2 ⟨rfl, hb2⟩
    go_wp2_with fail
    refine (awake_any _).mono ?_
    rintro e w' ⟨rfl, rfl⟩
    go_wp2_with fail
    refine (rmix_any _ _ _ Hn.out Hb.out).mono ?_
    rintro e w' ⟨rfl, rfl⟩
    go_wp2_with fail
    refine (rmix_any _ _ _ Hm.out Hb.out).mono ?_
    rintro e w' ⟨rfl, rfl⟩
    go_wp2
    all_goals
      go_ret
      exact ⟨rfl, hb1.trans (hb2.mono hb1.size)⟩
  · by_cases h1 : mixN n b < 0
    · have h2 : decide (0 < mixN m b) = false := by
        simp only [decide_eq_false_iff_not]; intro h; exact hlt (hbt.out h1 h)
      go_enter Try.func9, Try.ntmps9
      go_wp2_with fail
      refine (mix_any _ _ _ Hn.out Hb.out).mono ?_
      rintro e w1 ⟨rfl, hb1⟩
      go_wp2_with fail
      refine (mix_any _ _ _ Hm.out Hb.out).mono ?_
      rintro e w2 ⟨rfl, hb2⟩
      go_wp2_with fail
      refine (awake_any _).mono ?_
      rintro e w' ⟨rfl, rfl⟩
      go_wp2_with fail
      refine (rmix_any _ _ _ Hn.out Hb.out).mono ?_
      rintro e w' ⟨rfl, rfl⟩
      go_wp2_with fail
      refine (rmix_any _ _ _ Hm.out Hb.out).mono ?_
      rintro e w' ⟨rfl, rfl⟩
      go_wp2
      go_ret
      exact ⟨rfl, hb1.trans (hb2.mono hb1.size)⟩
    · go_enter Try.func9, Try.ntmps9
      go_wp2_with fail
      refine (mix_any _ _ _ Hn.out Hb.out).mono ?_
      rintro e w1 ⟨rfl, hb1⟩
      go_wp2_with fail
      refine (mix_any _ _ _ Hm.out Hb.out).mono ?_
      rintro e w2 ⟨rfl, hb2⟩
      go_wp2_with fail
      refine (awake_any _).mono ?_
      rintro e w' ⟨rfl, rfl⟩
      go_wp2_with fail
      refine (rmix_any _ _ _ Hn.out Hb.out).mono ?_
      rintro e w' ⟨rfl, rfl⟩
      go_wp2_with fail
      refine (rmix_any _ _ _ Hm.out Hb.out).mono ?_
      rintro e w' ⟨rfl, rfl⟩
      go_wp2
      go_ret
      exact ⟨rfl, hb1.trans (hb2.mono hb1.size)⟩

theorem run_equalIn_float {P : Program} (w : World) (d : Nat) (t : TypeId) (k : FloatKind) (a b : Nat) (h : P.underlying t = some (.float k)) : (Op.equalIn (d + 1) t (.float k a) (.float k b)).run P w = .ok (k.format.order a b == some .eq) w := by
  simp [Op.equalIn, run_underlying h]; rfl
theorem whole_fw {v : Int} (h : Fit v) (h1 : -9223372036854775808 ≤ v) (h2 : v ≤ 9223372036854775807) : wholeB (fw v) = true ∧ wholeI (fw v) = v := by
  obtain ⟨f1, f2, f3, f4⟩ := fw_facts h
  have hp : Fl.part (fw v) = v.natAbs := by unfold Fl.part; rw [f4, Nat.mul_div_cancel _ S_pos]
  have hfr : frac (fw v) = false := by unfold frac; rw [f4, Nat.mul_mod_left]; rfl
  have e : ival (fw v) = v := by
    unfold ival; rw [f2, hp]; unfold sgn; by_cases hv : v < 0 <;> simp [hv] <;> omega
  have hl : FloatKind.f64.format.order (fw v) 14114281232179134464 = some (compare v (-9223372036854775808)) := by
    have hs := svals.1
    rw [order_sval f1 (by decide) (nan_fw h) n_least, sval_fw h, hs, compare_mul _ _ _ S_pos]
  have ht := top_order h
  have hr : inRng (fw v) = true := by
    unfold inRng; rw [hl, ht, compare_lt (show v < 9223372036854775808 from by omega)]
    by_cases hv : v = -9223372036854775808
    · rw [hv, compare_self]; rfl
    · rw [compare_gt (show -9223372036854775808 < v from by omega)]; rfl
  have hw : wholeB (fw v) = true := by unfold wholeB; rw [hr, hfr]; rfl
  exact ⟨hw, by unfold wholeI; rw [hw, e]; rfl⟩
theorem splits_any (n : Int) (w : World) (hn : is64 n = true) :
    Calls Try.prog 7 #[.int .i64 n] w fun e w' => e = .returned (.bool true) ∧ Below w.heap.size w w' := by
  obtain ⟨n1, n2⟩ := is64_iff.1 hn
  have hfit := flo_fit n1 n2
  have hz := (fw_facts hfit).1
  have hr := flo_range n1 n2
  obtain ⟨w1, w2⟩ := whole_fw hfit hr.1 hr.2
  obtain ⟨o1, o2⟩ := over_range n1 n2
  have he := order_fw hfit hfit
  rw [compare_self] at he
  have hs := Lib.hid (split_any n · hn)
  have hrs := Lib.hid (rsplit_any n · hn)
  unfold partV at hs
  have hk : n - (n - flo n) = flo n := by omega
  have Hz := Lib.hid hz; have W1 := Lib.hid w1; have W2 := Lib.hid w2; have Hk := Lib.hid hk
  clear hfit hz w1 w2 hk hn
  generalize fw (flo n) = z at *
  have hq : ∀ w, (Op.equalIn 9999 27 (.float .f64 z) (.float .f64 z)).run Try.prog w = .ok true w := fun w => (run_equalIn_float w 9998 27 .f64 z z Try.underlying27).trans (by rw [he]; rfl)
  have hle : decide (flo n ≤ n) = true := by simp; omega
  have hkk : (flo n == n - (n - flo n)) = true := by rw [Hk.out]; simp
  go_enter Try.func7, Try.ntmps7
  go_wp2_with fail
  refine (hs.out _).mono ?_
  rintro e w1 ⟨rfl, hb1⟩
  go_wp2_with fail
  refine (hrs.out _).mono ?_
  rintro e w' ⟨rfl, rfl⟩
  go_wp2_with fail
  refine (whole_any _ _ Hz.out).mono ?_
  rw [W1.out, W2.out]
  rintro e w' ⟨rfl, rfl⟩
  go_wp2_with fail
  refine (awake_any _).mono ?_
  rintro e w' ⟨rfl, rfl⟩
  go_wp2
  go_ret
  exact ⟨rfl, hb1.alloc hb1.size _⟩

theorem parts_lt {a b : Int} :
    ((flo a < flo b ∨ (flo a = flo b ∧ a - flo a < b - flo b)) ↔ a < b) ∧ ((flo a = flo b ∧ a - flo a = b - flo b) ↔ a = b) := by
  constructor
  · constructor
    · rintro (h | ⟨h1, h2⟩)
      · apply Int.not_le.1; intro hc
        have := flo_mono hc; omega
      · omega
    · intro h
      have := flo_mono (Int.le_of_lt h)
      omega
  · constructor
    · rintro ⟨h1, h2⟩; omega
    · rintro rfl; exact ⟨rfl, rfl⟩
theorem parts_any (a b : Int) (w : World) (ha : is64 a = true) (hb : is64 b = true) :
    Calls Try.prog 12 #[.int .i64 a, .int .i64 b] w fun e w' => e = .returned (.bool true) ∧ Below w.heap.size w w' := by
  obtain ⟨pl, pe⟩ := @parts_lt a b
  obtain ⟨a1, a2⟩ := is64_iff.1 ha
  obtain ⟨b1, b2⟩ := is64_iff.1 hb
  have fa := flo_fit a1 a2
  have fb := flo_fit b1 b2
  have hsa := Lib.hid (split_any a · ha)
  have hsb := Lib.hid (split_any b · hb)
  unfold partV at hsa hsb
  have kl := key_fw_lt fa fb
  have kr := key_fw_lt fb fa
  have hza := Lib.hid (fw_facts fa).1
  have hzb := Lib.hid (fw_facts fb).1
  have hc : (flo a < flo b ∧ cmpN (fw (flo a)) (fw (flo b)) = -1) ∨ (flo a = flo b ∧ cmpN (fw (flo a)) (fw (flo b)) = 0) ∨ (flo b < flo a ∧ cmpN (fw (flo a)) (fw (flo b)) = 1) := by
    rcases Int.lt_trichotomy (flo a) (flo b) with h | h | h
    · exact Or.inl ⟨h, cmp_lt (kl.2 h)⟩
    · exact Or.inr (Or.inl ⟨h, cmp_eq (by rw [h])⟩)
    · exact Or.inr (Or.inr ⟨h, cmp_gt (kr.2 h)⟩)
  clear kl kr fa fb ha hb
  generalize fw (flo a) = za at *
  generalize fw (flo b) = zb at *
  generalize hoa : a - flo a = oa at *
  generalize hob : b - flo b = ob at *
  rcases hc with ⟨h1, h2⟩ | ⟨h1, h2⟩ | ⟨h1, h2⟩
  · have Hc := Lib.hid h2
    have t1 : decide (a < b) = true := by simp only [decide_eq_true_eq]; exact pl.1 (Or.inl h1)
    have t2 : (a == b) = false := by
      have := pl.1 (Or.inl h1)
      simp; omega
    clear h1 h2 pl pe hoa hob
    go_enter Try.func12, Try.ntmps12
    go_wp2_with fail
    refine (hsa.out _).mono ?_
    rintro e w1 ⟨rfl, hb1⟩
    go_wp2_with fail
    refine (hsb.out _).mono ?_
    rintro e w2 ⟨rfl, hb2⟩
    go_wp2_with fail
    refine (cmp_any _ _ _ hza.out hzb.out).mono ?_
    rw [Hc.out]
    rintro e w' ⟨rfl, rfl⟩
    go_wp2_with fail
    refine (awake_any _).mono ?_
    rintro e w' ⟨rfl, rfl⟩
    go_wp2
    go_ret
    exact ⟨rfl, ((hb1.trans (hb2.mono hb1.size)).alloc (Nat.le_trans hb1.size hb2.size) _).alloc (by simp; exact Nat.le_succ_of_le (Nat.le_trans hb1.size hb2.size)) _⟩
  · have Hc := Lib.hid h2
    have t1 : decide (a < b) = decide (oa < ob) := by
      rw [Bool.eq_iff_iff]; simp only [decide_eq_true_eq]; rw [← pl]
      constructor
      · rintro (h | ⟨-, h⟩)
        · omega
        · exact h
      · intro h; exact Or.inr ⟨h1, h⟩
    have t2 : (a == b) = (oa == ob) := by
      rw [Bool.eq_iff_iff]; simp only [beq_iff_eq]; rw [← pe]
      exact ⟨fun h => h.2, fun h => ⟨h1, h⟩⟩
    clear h1 h2 pl pe hoa hob
    go_enter Try.func12, Try.ntmps12
    go_wp2_with fail
    refine (hsa.out _).mono ?_
    rintro e w1 ⟨rfl, hb1⟩
    go_wp2_with fail
    refine (hsb.out _).mono ?_
    rintro e w2 ⟨rfl, hb2⟩
    go_wp2_with fail
    refine (cmp_any _ _ _ hza.out hzb.out).mono ?_
    rw [Hc.out]
    rintro e w' ⟨rfl, rfl⟩
    go_wp2_with fail
    refine (awake_any _).mono ?_
    rintro e w' ⟨rfl, rfl⟩
    go_wp2
    go_ret
    exact ⟨rfl, ((hb1.trans (hb2.mono hb1.size)).alloc (Nat.le_trans hb1.size hb2.size) _).alloc (by simp; exact Nat.le_succ_of_le (Nat.le_trans hb1.size hb2.size)) _⟩
  · have Hc := Lib.hid h2
    have t1 : decide (a < b) = false := by
      simp only [decide_eq_false_iff_not]; rw [← pl]; rintro (h | ⟨h, -⟩) <;> omega
    have t2 : (a == b) = false := by
      rw [Bool.eq_false_iff]; intro h; rw [beq_iff_eq, ← pe] at h; omega
    clear h1 h2 pl pe hoa hob
    go_enter Try.func12, Try.ntmps12
    go_wp2_with fail
    refine (hsa.out _).mono ?_
    rintro e w1 ⟨rfl, hb1⟩
    go_wp2_with fail
    refine (hsb.out _).mono ?_
    rintro e w2 ⟨rfl, hb2⟩
    go_wp2_with fail
    refine (cmp_any _ _ _ hza.out hzb.out).mono ?_
    rw [Hc.out]
    rintro e w' ⟨rfl, rfl⟩
    go_wp2_with fail
    refine (awake_any _).mono ?_
    rintro e w' ⟨rfl, rfl⟩
    go_wp2
    go_ret
    exact ⟨rfl, ((hb1.trans (hb2.mono hb1.size)).alloc (Nat.le_trans hb1.size hb2.size) _).alloc (by simp; exact Nat.le_succ_of_le (Nat.le_trans hb1.size hb2.size)) _⟩
end Go.Proofs.Ytmkgjammkjmooaa
