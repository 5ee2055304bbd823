/- contracts of math.Nextafter towards -Inf, num.Split, num.Mix -/
import Derived.Test.YtnehbpfgdeilhaaGreatDoorNumW
namespace Go.Proofs.YtnehbpfgdeilhaaGreatDoor
open Go.ChangeShapes Go.WideShapes Go.ChangeAt Go.RowKit Go.Fl

def minf : Nat := 18442240474082181120

theorem minf_nan : nanB minf = false := by decide +kernel

theorem minf_low {b : Nat} (hb : b < 18446744073709551616) (h : rung b < 9218868437227405312) :
    FloatKind.f64.format.order b minf = some .gt ∧ FloatKind.f64.format.order minf b = some .lt := by
  have hn : nanB b = false := (nan_iff' hb).2 (by omega)
  have hs : srung minf < srung b := by
    have e : srung minf = -9218868437227405312 := by decide +kernel
    rw [e]; unfold srung sgn; cases neg b <;> simp <;> omega
  have hs' := sval_lt.2 hs
  rw [order_sval hb (by decide) hn minf_nan, order_sval (by decide) hb minf_nan hn, compare_lt hs', compare_gt hs']
  exact ⟨rfl, rfl⟩

theorem zero_side {b : Nat} (hb : b < 18446744073709551616) (h : rung b < 9218868437227405312) (h0 : 0 < rung b) :
    FloatKind.f64.format.order b 0 = some (if neg b then .lt else .gt) := by
  have hn : nanB b = false := (nan_iff' hb).2 (by omega)
  have e0 : sval 0 = 0 := by decide +kernel
  have hl := ladder_pos.2 h0
  rw [order_sval hb (by decide) hn (by decide +kernel), e0]
  unfold sval sgn
  cases neg b <;> simp <;> first | exact compare_gt (by omega) | exact compare_lt (by omega)

/-- what num.Split hands out -/
def partV (n : Int) : Value := .agg #[.float .f64 (fw (flo n)), .int .i64 (n - flo n)]

theorem top_order {u : Int} (h : Fit u) : FloatKind.f64.format.order (fw u) 4890909195324358656 = some (compare u 9223372036854775808) := by
  have hs := svals.2
  rw [order_sval (fw_facts h).1 (by decide) (nan_fw h) n_top, sval_fw h, hs, compare_mul _ _ _ S_pos]

theorem conv_run {v : Int} (h : Fit v) (h1 : -9223372036854775808 ≤ v) (h2 : v ≤ 9223372036854775807) (w : World) : (convert 47 2 (.float .f64 (fw v))).run Tryz.prog w = .ok (.int .i64 v) w :=
  run_convert_float_int w 47 2 .f64 .i64 _ _ (by rw [Tryz.underlying47]; rfl) Tryz.underlying2 (conv_fw h h1 h2)

/-- how an int64 is ordered to a float -/
def mixN (n : Int) (b : Nat) : Int := if cmpN (fw (flo n)) b = 0 then (if 0 < n - flo n then 1 else -1) else cmpN (fw (flo n)) b

theorem mix_between {n m : Int} {b : Nat} (hn : is64 n = true) (hm : is64 m = true) (h1 : mixN n b < 0) (h2 : 0 < mixN m b) : n < m := by
  obtain ⟨n1, n2⟩ := is64_iff.1 hn
  obtain ⟨m1, m2⟩ := is64_iff.1 hm
  have fn := flo_fit n1 n2
  have fm := flo_fit m1 m2
  have on := over_range n1 n2
  have om := over_range m1 m2
  have kl := key_fw_lt fn fm
  have ke := key_fw_eq fn fm
  have a1 : keyN (fw (flo n)) < keyN b ∨ (keyN (fw (flo n)) = keyN b ∧ n - flo n ≤ 0) := by
    unfold mixN at h1
    rcases Nat.lt_trichotomy (keyN (fw (flo n))) (keyN b) with h | h | h
    · exact Or.inl h
    · rw [cmp_eq h, if_pos rfl] at h1
      refine Or.inr ⟨h, ?_⟩
      split at h1 <;> omega
    · rw [cmp_gt h] at h1; simp at h1
  have a2 : keyN b < keyN (fw (flo m)) ∨ (keyN (fw (flo m)) = keyN b ∧ 0 < m - flo m) := by
    unfold mixN at h2
    rcases Nat.lt_trichotomy (keyN (fw (flo m))) (keyN b) with h | h | h
    · rw [cmp_lt h] at h2; simp at h2
    · rw [cmp_eq h, if_pos rfl] at h2
      refine Or.inr ⟨h, ?_⟩
      split at h2 <;> omega
    · exact Or.inl h
  by_cases hle : m ≤ n
  · exfalso
    have := flo_mono hle
    omega
  · omega

theorem mix_not_zero (n : Int) (b : Nat) : (mixN n b == 0) = false := by
  unfold mixN
  split
  · split <;> rfl
  · rename_i h; simpa using h

theorem whole_fw {v : Int} (h : Fit v) (h1 : -9223372036854775808 ≤ v) (h2 : v ≤ 9223372036854775807) : wholeB (fw v) = true ∧ wholeI (fw v) = v := by
  obtain ⟨f1, f2, f3, f4⟩ := fw_facts h
  have hp : Fl.part (fw v) = v.natAbs := by unfold Fl.part; rw [f4, Nat.mul_div_cancel _ S_pos]
  have hfr : frac (fw v) = false := by unfold frac; rw [f4, Nat.mul_mod_left]; rfl
  have e : ival (fw v) = v := by
    unfold ival; rw [f2, hp]; unfold sgn; by_cases hv : v < 0 <;> simp [hv] <;> omega
  have hl : FloatKind.f64.format.order (fw v) 14114281232179134464 = some (compare v (-9223372036854775808)) := by
    have hs := svals.1
    rw [order_sval f1 (by decide) (nan_fw h) n_least, sval_fw h, hs, compare_mul _ _ _ S_pos]
  have ht := top_order h
  have hr : inRng (fw v) = true := by
    unfold inRng; rw [hl, ht, compare_lt (show v < 9223372036854775808 from by omega)]
    by_cases hv : v = -9223372036854775808
    · rw [hv, compare_self]; rfl
    · rw [compare_gt (show -9223372036854775808 < v from by omega)]; rfl
  have hw : wholeB (fw v) = true := by unfold wholeB; rw [hr, hfr]; rfl
  exact ⟨hw, by unfold wholeI; rw [hw, e]; rfl⟩

theorem parts_lt {a b : Int} :
    ((flo a < flo b ∨ (flo a = flo b ∧ a - flo a < b - flo b)) ↔ a < b) ∧ ((flo a = flo b ∧ a - flo a = b - flo b) ↔ a = b) := by
  constructor
  · constructor
    · rintro (h | ⟨h1, h2⟩)
      · apply Int.not_le.1; intro hc
        have := flo_mono hc; omega
      · omega
    · intro h
      have := flo_mono (Int.le_of_lt h)
      omega
  · constructor
    · rintro ⟨h1, h2⟩; omega
    · rintro rfl; exact ⟨rfl, rfl⟩

end Go.Proofs.YtnehbpfgdeilhaaGreatDoor
