/- contracts of the reference's Split and Mix -/
import Derived.Test.YtaonlbmicjoclaaNumS
import Derived.Test.YtaonlbmicjoclaaRefB
namespace Go.Proofs.Ytaonlbmicjoclaa
open Go.ChangeShapes Go.WideShapes Go.ChangeAt Go.RowKit Go.Fl

/-- n halved k times, downwards -/
def hv (n : Int) (k : Nat) : Int := n / ((2 ^ k : Nat) : Int)

theorem hv_zero (n : Int) : hv n 0 = n := by unfold hv; simp

theorem hv_succ (n : Int) (k : Nat) : hv n k / 2 = hv n (k + 1) := by
  unfold hv
  rw [Int.ediv_ediv_of_nonneg (Int.le_of_lt (two_pos k)), Nat.pow_succ]; rfl

theorem hv_end {n : Int} {k : Nat} (hk : k ≤ sh n) (h : (hv n k).natAbs ≤ 9007199254740992) : hv n k * ((2 ^ k : Nat) : Int) = flo n := flo_halved hk h

theorem hv_top (n : Int) : (hv n (sh n)).natAbs ≤ 9007199254740992 := quo_le n

theorem split_facts {n : Int} {k : Nat} (n1 : -9223372036854775808 ≤ n) (n2 : n ≤ 9223372036854775807) (hk : k ≤ sh n) (h : (hv n k).natAbs ≤ 9007199254740992) :
    floatBits .mul .f64 (floatOfInt .f64 (hv n k)) (floatOfInt .f64 (wrap64 ((2 : Int) ^ k))) = some (fw (flo n)) ∧ wrap64 (n - wrap64 (hv n k * (2 : Int) ^ k)) = n - flo n := by
  have he := hv_end hk h
  have hm : Fit (hv n k) := fit_small _ h
  have hk11 : k ≤ 11 := Nat.le_trans hk (sh_le n1 n2)
  have hpw : (2 : Int) ^ k = ((2 ^ k : Nat) : Int) := by simp
  have hp1 := two_pos k
  have hp2 : 2 ^ k ≤ 2 ^ 11 := Nat.pow_le_pow_right (by decide) hk11
  have hp3 : (2 : Nat) ^ 11 = 2048 := by decide
  rw [hp3] at hp2
  have hfl := flo_range n1 n2
  have hov := over_range n1 n2
  have hfit := flo_fit n1 n2
  rw [hpw]
  generalize 2 ^ k = p at *
  have hw2 : wrap64 (p : Int) = (p : Int) := wrap64_id (is64_iff.2 (by omega))
  rw [hw2, he, wrap64_id (is64_iff.2 hfl), wrap64_id (is64_iff.2 (by omega))]
  refine ⟨?_, rfl⟩
  have hq := floatBits_mul hm (fit_small (p : Int) (by omega)) (by rw [he]; exact hfit) hp1
  rw [he] at hq
  exact hq

theorem rsplit_any (n : Int) (w : World) (hn : is64 n = true) :
    Calls Try.prog 42 #[.int .i64 n] w fun e w' => e = .returned (.tuple #[.float .f64 (fw (flo n)), .int .i64 (n - flo n)]) ∧ w = w' := by
  obtain ⟨n1, n2⟩ := is64_iff.1 hn
  have hs := sh_le n1 n2
  clear hn
  go_enter Try.func42, Try.ntmps42
  go_wp2
  go_loop [4, 5] (fun m k => ∃ k' : Nat, k' ≤ sh n ∧ k = .int .i64 k' ∧ m = .int .i64 (hv n k')) (fun m _ => (intOf m).natAbs)
  case atStart => exact ⟨0, Nat.zero_le _, rfl, by rw [hv_zero]⟩
  case round =>
    obtain ⟨k, hk, rfl, rfl⟩ := hrel
    have hsu := hv_succ n k
    have htop := hv_top n
    by_cases h1 : 9007199254740992 < hv n k
    · have Hs := Lib.hid hsu; have Ht := Lib.hid htop; clear hsu htop
      go_wp2
      go_round
      case rel =>
        refine ⟨k + 1, ?_, by go_num, by rw [Hs.out]⟩
        have := Ht.out
        apply Nat.lt_of_le_of_ne hk; intro e; subst e; omega
      case measure => simp [intOf]; omega
    · by_cases h2 : hv n k < -9007199254740992
      · have Hs := Lib.hid hsu; have Ht := Lib.hid htop; clear hsu htop
        go_wp2
        go_round
        case rel =>
          refine ⟨k + 1, ?_, by go_num, by rw [Hs.out]⟩
          have := Ht.out
          apply Nat.lt_of_le_of_ne hk; intro e; subst e; omega
        case measure => simp [intOf]; omega
      · have he := hv_end hk (by omega)
        obtain ⟨hq, hres⟩ := split_facts n1 n2 hk (by omega)
        have hmul : ∀ w, (binOp .mul 24 (.float .f64 (floatOfInt .f64 (hv n k))) (.float .f64 (floatOfInt .f64 (wrap64 ((2 : Int) ^ k))))).run Try.prog w = .ok (.float .f64 (fw (flo n))) w :=
          fun w => run_float_arith w .mul 24 .f64 _ _ _ hq
        have hk11 : k ≤ 11 := Nat.le_trans hk hs
        have Hr := Lib.hid hres
        clear hsu htop he hres hk hq
        go_wp2
        go_ret2
        exact ⟨ret_fi Hr.out, rfl⟩

theorem rmix_any (n : Int) (b : Nat) (w : World) (hn : is64 n = true) (hb : b < 18446744073709551616) :
    Calls Try.prog 24 #[.int .i64 n, .float .f64 b] w fun e w' => e = .returned (.int .i64 (mixN n b)) ∧ w = w' := by
  obtain ⟨n1, n2⟩ := is64_iff.1 hn
  have hz := (fw_facts (flo_fit n1 n2)).1
  have hs := Lib.hid (rsplit_any n · hn)
  unfold mixN
  have Hb := Lib.hid hb; have Hz := Lib.hid hz
  clear hn hb hz n1 n2
  generalize fw (flo n) = z at *
  generalize n - flo n = y at *
  by_cases hc : cmpN z b = 0
  · rw [if_pos hc]
    have Hc := Lib.hid hc; clear hc
    by_cases hy : 0 < y
    · rw [if_pos hy]
      go_enter Try.func24, Try.ntmps24
      go_wp2_with fail
      refine (hs.out _).mono ?_
      rintro e w1 ⟨rfl, rfl⟩
      go_wp2_with fail
      refine (rcmp_any _ _ _ Hz.out Hb.out).mono ?_
      rw [Hc.out]
      rintro e w' ⟨rfl, rfl⟩
      go_wp2
      go_ret
      exact ⟨rfl, rfl⟩
    · rw [if_neg hy]
      go_enter Try.func24, Try.ntmps24
      go_wp2_with fail
      refine (hs.out _).mono ?_
      rintro e w1 ⟨rfl, rfl⟩
      go_wp2_with fail
      refine (rcmp_any _ _ _ Hz.out Hb.out).mono ?_
      rw [Hc.out]
      rintro e w' ⟨rfl, rfl⟩
      go_wp2
      go_ret
      exact ⟨rfl, rfl⟩
  · rw [if_neg hc]
    have hc' : (cmpN z b == 0) = false := by simpa using hc
    clear hc
    go_enter Try.func24, Try.ntmps24
    go_wp2_with fail
    refine (hs.out _).mono ?_
    rintro e w1 ⟨rfl, rfl⟩
    go_wp2_with fail
    refine (rcmp_any _ _ _ Hz.out Hb.out).mono ?_
    rintro e w' ⟨rfl, rfl⟩
    go_wp2
    go_ret
    exact ⟨rfl, rfl⟩

end Go.Proofs.Ytaonlbmicjoclaa
