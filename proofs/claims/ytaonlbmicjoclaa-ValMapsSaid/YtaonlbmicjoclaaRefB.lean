/- contracts of the reference of layer 1: Canon, Key, Less, Cmp -/
import Derived.Test.YtaonlbmicjoclaaNumB
namespace Go.Proofs.Ytaonlbmicjoclaa
open Go.ChangeShapes Go.WideShapes Go.ChangeAt Go.RowKit Go.Fl

theorem rcanon_any (b : Nat) (w : World) :
    Calls Try.prog 21 #[.float .f64 b] w fun e w' => e = .returned (.int .u64 (canonN b)) ∧ w = w' := by
  unfold canonN
  have hf := call_bits
  rcases h : nanB b with _ | _
  · have h1 : (FloatKind.f64.format.order b b != some .eq) = false := h
    clear h
    go_enter Try.func21, Try.ntmps21
    go_wp2
    go_ret
    exact ⟨rfl, rfl⟩
  · have h1 : (FloatKind.f64.format.order b b != some .eq) = true := h
    clear h
    go_enter Try.func21, Try.ntmps21
    go_wp2
    go_ret
    exact ⟨rfl, rfl⟩

/-- the reference's Less is the keys' order -/
theorem less_any (a b : Nat) (w : World) (ha : a < 18446744073709551616) (hb : b < 18446744073709551616) :
    Calls Try.prog 43 #[.float .f64 a, .float .f64 b] w fun e w' => e = .returned (.bool (decide (keyN a < keyN b))) ∧ w = w' := by
  rcases na : nanB a with _ | _
  · have h1 : (FloatKind.f64.format.order a a != some .eq) = false := na
    have h1' : (FloatKind.f64.format.order a a == some .eq) = true := by simpa using h1
    rcases nb : nanB b with _ | _
    · have h2 : (FloatKind.f64.format.order b b != some .eq) = false := nb
      have kl := key_lt_num ha hb na nb
      have n0 : nanB 0 = false := by decide +kernel
      have za : (FloatKind.f64.format.order a 0 == some .eq) = decide (rung a = 0) := by
        refine (eqB_eq ha (by decide) na n0).trans ?_
        have s0 : srung 0 = 0 := by decide
        rw [s0, Bool.eq_iff_iff]; unfold srung sgn; cases neg a <;> simp
      have zb : (FloatKind.f64.format.order b 0 == some .eq) = decide (rung b = 0) := by
        refine (eqB_eq hb (by decide) nb n0).trans ?_
        have s0 : srung 0 = 0 := by decide
        rw [s0, Bool.eq_iff_iff]; unfold srung sgn; cases neg b <;> simp
      have hlt : (FloatKind.f64.format.order a b == some .lt) = decide (srung a < srung b) := ltB_eq ha hb na nb
      by_cases hz : rung a = 0 ∧ rung b = 0
      · rw [decide_eq_true hz.1] at za
        rw [decide_eq_true hz.2] at zb
        have e1 : decide (keyN a < keyN b) = (neg a && !neg b) := by
          rw [Bool.eq_iff_iff, decide_eq_true_eq, kl]
          simp only [srung, sgn, hz.1, hz.2]
          cases neg a <;> cases neg b <;> simp
        rw [e1]
        clear e1 hlt kl na nb n0 hz
        have Ha := Lib.hid ha; have Hb := Lib.hid hb; clear ha hb
        rcases sa : neg a with _ | _
        · have Sa := Lib.hid sa; clear sa
          go_enter Try.func43, Try.ntmps43
          go_wp2_with fail
          refine (signbit_any _ _ Ha.out).mono ?_
          rw [Sa.out]
          rintro e w' ⟨rfl, rfl⟩
          go_wp2
          go_ret
          exact ⟨rfl, rfl⟩
        · have Sa := Lib.hid sa; clear sa
          go_enter Try.func43, Try.ntmps43
          go_wp2_with fail
          refine (signbit_any _ _ Ha.out).mono ?_
          rw [Sa.out]
          rintro e w' ⟨rfl, rfl⟩
          go_wp2_with fail
          refine (signbit_any _ _ Hb.out).mono ?_
          rintro e w' ⟨rfl, rfl⟩
          go_wp2
          go_ret
          exact ⟨rfl, rfl⟩
      · have e1 : decide (keyN a < keyN b) = (FloatKind.f64.format.order a b == some .lt) := by
          rw [hlt, Bool.eq_iff_iff, decide_eq_true_eq, decide_eq_true_eq, kl]
          constructor
          · rintro (h | ⟨x, y, -⟩)
            · exact h
            · exact absurd ⟨x, y⟩ hz
          · exact Or.inl
        rw [e1]
        clear e1 hlt kl na nb n0 ha hb
        by_cases hz1 : rung a = 0
        · rw [decide_eq_true hz1] at za
          rw [decide_eq_false (fun h => hz ⟨hz1, h⟩)] at zb
          clear hz hz1
          go_enter Try.func43, Try.ntmps43
          go_wp2
          go_ret
          exact ⟨rfl, rfl⟩
        · rw [decide_eq_false hz1] at za
          clear hz hz1 zb
          go_enter Try.func43, Try.ntmps43
          go_wp2
          go_ret
          exact ⟨rfl, rfl⟩
    · have h2 : (FloatKind.f64.format.order b b != some .eq) = true := nb
      rw [decide_eq_true (key_num_lt_nan ha na nb)]
      clear na nb ha hb
      go_enter Try.func43, Try.ntmps43
      go_wp2
      go_ret
      exact ⟨rfl, rfl⟩
  · have h1 : (FloatKind.f64.format.order a a != some .eq) = true := na
    have h1' : (FloatKind.f64.format.order a a == some .eq) = false := by simpa using h1
    have e1 : decide (keyN a < keyN b) = false := by
      rcases nb : nanB b with _ | _
      · have := key_num_lt_nan hb nb na; simp; omega
      · rw [keyN_nan na, keyN_nan nb]; decide
    rw [e1]
    clear e1 na ha hb
    go_enter Try.func43, Try.ntmps43
    go_wp2
    go_ret
    exact ⟨rfl, rfl⟩

theorem rcmp_any (a b : Nat) (w : World) (ha : a < 18446744073709551616) (hb : b < 18446744073709551616) :
    Calls Try.prog 25 #[.float .f64 a, .float .f64 b] w fun e w' => e = .returned (.int .i64 (cmpN a b)) ∧ w = w' := by
  have Ha := Lib.hid ha; have Hb := Lib.hid hb; clear ha hb
  rcases Nat.lt_trichotomy (keyN a) (keyN b) with h | h | h
  · rw [cmp_lt h]
    have ht : decide (keyN a < keyN b) = true := by simpa using h
    have Ht := Lib.hid ht; clear h ht
    go_enter Try.func25, Try.ntmps25
    go_wp2_with fail
    refine (less_any _ _ _ Ha.out Hb.out).mono ?_
    rw [Ht.out]
    rintro e w' ⟨rfl, rfl⟩
    go_wp2
    go_ret
    exact ⟨rfl, rfl⟩
  · rw [cmp_eq h]
    have ht : decide (keyN a < keyN b) = false := by simp; omega
    have ht' : decide (keyN b < keyN a) = false := by simp; omega
    have Ht := Lib.hid ht; have Ht' := Lib.hid ht'; clear h ht ht'
    go_enter Try.func25, Try.ntmps25
    go_wp2_with fail
    refine (less_any _ _ _ Ha.out Hb.out).mono ?_
    rw [Ht.out]
    rintro e w' ⟨rfl, rfl⟩
    go_wp2_with fail
    refine (less_any _ _ _ Hb.out Ha.out).mono ?_
    rw [Ht'.out]
    rintro e w' ⟨rfl, rfl⟩
    go_wp2
    go_ret
    exact ⟨rfl, rfl⟩
  · rw [cmp_gt h]
    have ht : decide (keyN a < keyN b) = false := by simp; omega
    have ht' : decide (keyN b < keyN a) = true := by simpa using h
    have Ht := Lib.hid ht; have Ht' := Lib.hid ht'; clear h ht ht'
    go_enter Try.func25, Try.ntmps25
    go_wp2_with fail
    refine (less_any _ _ _ Ha.out Hb.out).mono ?_
    rw [Ht.out]
    rintro e w' ⟨rfl, rfl⟩
    go_wp2_with fail
    refine (less_any _ _ _ Hb.out Ha.out).mono ?_
    rw [Ht'.out]
    rintro e w' ⟨rfl, rfl⟩
    go_wp2
    go_ret
    exact ⟨rfl, rfl⟩

end Go.Proofs.Ytaonlbmicjoclaa
